/- The document's Print of layer 6. -/
import Derived.Test.YtnfchlkdppblfaaGreatDoorDa
import Derived.Test.YtnfchlkdppblfaaGreatDoorCz
import Derived.Test.YtnfchlkdppblfaaGreatDoorCq
namespace Go.Proofs.YtnfchlkdppblfaaGreatDoor
open Go.RowKit Go
set_option maxRecDepth 100000 in
theorem info25 : (Tryz.prog.info? 29).map (·.size) = some 3 := by kernel_rfl
set_option maxRecDepth 100000 in
theorem ld3 {w : World} {g e : Nat} {s : Sp} (h : w.heap[g]? = some (.cells (row3 s) e (0, 0))) : (loadCells ⟨g, 0, none⟩ (row3 s).toList.length).run Tryz.prog w = .ok (row3 s).toList.toArray w :=
  run_loadCells_list (P := Tryz.prog) w ⟨g, 0, none⟩ (row3 s).toList fun j v hv => by rw [Addr.add_lit, Nat.zero_add, cell_of_row w g j _ _ _ h]; simpa using hv
set_option maxRecDepth 100000 in
/-- The load of a specification, an operation of a region that draws its order. -/
theorem exec_load25 {ρ : Operand → Value} {o : Oper} {w : World} (x : Operand) (ho : o.op = .load 29 x) (g : Nat) (hx : ρ x = .pointer (some ⟨g, 0, none⟩)) (s : Sp) {e : Nat} (h : w.heap[g]? = some (.cells (row3 s) e (0, 0))) : (execOp ρ o).run Tryz.prog w = .ok (.value (specV s)) w := by
  have hl : (loadVar 29 ⟨g, 0, none⟩).run Tryz.prog w = .ok (specV s) w := run_loadVar_at (cs := row3 s) (ld3 h) (Tryz.isAgg29 w) info25
  unfold execOp
  simp only [ho, hx, Instr.loadAt, Instr.sureAddr, Sem.run_bind, Sem.run_pure, Result.andThen_ok, hl]
theorem flat_le (B : Nat) : ∀ l : List (List UInt8), (∀ x ∈ l, x.length ≤ B) → (flatLn l).length ≤ l.length * (B + 1)
  | [], _ => by simp [flatLn]
  | x :: l, h => by
    have h1 := flat_le B l (fun y hy => h y (by simp [hy]))
    have h2 := h x (by simp)
    show ((x ++ ([10] : List UInt8)) ++ flatLn l).length ≤ _
    simp only [List.length_append, List.length_cons, List.length_nil, Nat.add_mul] at h1 ⊢
    omega
theorem flat_one (l : List (List UInt8)) (x : List UInt8) : flatLn (l ++ [x]) = flatLn l ++ (x ++ [10]) := by rw [flatLn_append]; simp [flatLn]
theorem conds_len {kd : Nat → Cn} {kn : Nat} (hn : kn ≤ 8) (h : ∀ i, i < kn → (kd i).nm.size ≤ 12) (j : Nat) (hj : j + 1 ≤ kn) : (flatLn (condLs kd j)).length ≤ 128 := by
  have := flat_le 15 (condLs kd j) (by
    intro x hx
    simp only [condLs, List.mem_map, List.mem_range] at hx
    obtain ⟨i, hi, rfl⟩ := hx
    exact condT_len (h (i + 1) (by omega)))
  simp only [condLs, List.length_map, List.length_range] at this ⊢
  omega
theorem rules_len {kd : Nat → Cn} {kn rn : Nat} {rl : Nat → Rl} (hn1 : 1 ≤ kn) (hn : kn ≤ 8) (h : ∀ i, i < kn → (kd i).nm.size ≤ 12) (hr : ∀ i, i < rn → ruleB (rl i) kn = true) (h40 : rn ≤ 40) (j : Nat) (hj : j ≤ rn) : (flatLn (ruleLs rl kd j)).length ≤ 240016440 := by
  have := flat_le 6000400 (ruleLs rl kd j) (by
    intro x hx
    simp only [ruleLs, List.mem_map, List.mem_range] at hx
    obtain ⟨i, hi, rfl⟩ := hx
    exact ruleT_len (hr i (by omega)) hn hn1 h)
  simp only [ruleLs, List.length_map, List.length_range] at this ⊢
  have h2 : j * (6000400 + 1) ≤ 40 * (6000400 + 1) := Nat.mul_le_mul_right _ (by omega)
  omega
/-- What stands ahead of the rules. -/
def preT (s : Sp) : List UInt8 := flatLn (condLs s.cs.c (s.cs.n - 1)) ++ ((if s.dft = true then [] else [37, 110, 111, 100, 101, 102, 97, 117, 108, 116, 10]) ++ [37, 37, 10])
theorem text_parts (s : Sp) : textT s = preT s ++ flatLn (ruleLs s.rs.r s.cs.c s.rs.n) := by
  unfold textT linesT preT dftLs
  rw [flatLn_append, flatLn_append, flatLn_append]
  cases s.dft <;> simp [flatLn]
set_option maxRecDepth 100000 in
set_option maxHeartbeats 16000000 in
theorem refspprint_any (s : Sp) (w : World) (h : SpIn w s) : Calls Tryz.prog 31 #[specV s] w fun e w' => e = .returned (spprintV s) ∧ Below w.heap.size w w' := by
  obtain ⟨⟨ka, kn, kc, kd⟩, dft, ⟨ra, rn, rc, rl⟩⟩ := s
  have HRI : Hid (∀ o w1, Bx w o w1 → Calls Tryz.prog 32 #[specV ⟨⟨ka, kn, kc, kd⟩, dft, ⟨ra, rn, rc, rl⟩⟩] w1 fun e w' => e = .returned (.bool (specB ⟨⟨ka, kn, kc, kd⟩, dft, ⟨ra, rn, rc, rl⟩⟩)) ∧ Bx w o w') := Lib.hid fun o w1 hb => (refspright_any ⟨⟨ka, kn, kc, kd⟩, dft, ⟨ra, rn, rc, rl⟩⟩ w1 (h.now hb.out)).mono fun e w' q => ⟨q.1, hb.to q.2⟩
  obtain ⟨b0, hb0⟩ : ∃ x, x = specB ⟨⟨ka, kn, kc, kd⟩, dft, ⟨ra, rn, rc, rl⟩⟩ := ⟨_, rfl⟩
  rw [← hb0] at HRI
  unfold spprintV
  rw [← hb0]
  have HB0 := Lib.hid hb0
  clear hb0
  cases b0
  · clear h HB0
    go_enter Tryz.func31, Tryz.ntmps31
    go_wp2_with (first | (go_at_call 32; refine (HRI.out _ _ (Bx.refl _ _)).mono ?_; rintro e w1 ⟨rfl, hb1⟩))
    go_ret2
    exact ⟨rfl, hb1.out⟩
  · have hp := spec_parts HB0.out.symm
    dsimp only at hp
    obtain ⟨hn1, hn8, hnm, h40, hru⟩ := hp
    have hk1 := h.1.1
    have hk2 := h.1.2.1
    have hr1 := h.2.1
    have hr2 := h.2.2.1
    have HKA := Lib.hid h.1.2.2.1
    have HRA := Lib.hid h.2.2.2.1
    have HLI : Hid (∀ i, i < rn → ∀ o w1, Bx w o w1 → Calls Tryz.prog 62 #[specV ⟨⟨ka, kn, kc, kd⟩, dft, ⟨ra, rn, rc, rl⟩⟩, ruleV (rl i)] w1 fun e w' => e = .returned (strV (ruleT (rl i) kd ++ [10])) ∧ Bx w o w') := Lib.hid fun i hi o w1 hb => (refline_any ⟨⟨ka, kn, kc, kd⟩, dft, ⟨ra, rn, rc, rl⟩⟩ (rl i) w1 ((h.2.2.2.2 i hi).now hb.out) (h.1.now hb.out) (hru i hi) hn1 hn8 hnm).mono fun e w' q => ⟨q.1, hb.to q.2⟩
    have HCL := Lib.hid (conds_len hn8 hnm)
    have HRL := Lib.hid (rules_len hn1 hn8 hnm hru h40)
    have HRT := Lib.hid (fun i (hi : i < rn) => ruleT_len (c := kd) (hru i hi) hn8 hn1 hnm)
    have HNM := Lib.hid hnm
    clear h hnm hru
    dsimp only at hk1 hk2 hr1 hr2 HKA HRA
    unfold maxLen at hk2 hr2
    obtain ⟨g, off, rfl, hg, hc⟩ := HKA.out (by omega)
    have HC := Lib.hid hc
    rw [if_pos rfl]
    obtain ⟨TX, hTX⟩ : ∃ T, T = textT ⟨⟨some ⟨g, off, none⟩, kn, kc, kd⟩, dft, ⟨ra, rn, rc, rl⟩⟩ := ⟨_, rfl⟩
    rw [← hTX]
    rw [text_parts] at hTX
    dsimp only at hTX
    have HTX := Lib.hid hTX
    clear hc HKA hTX HB0
    go_enter Tryz.func31, Tryz.ntmps31
    go_wp2_with (first | (go_at_call 32; refine (HRI.out _ _ (Bx.refl _ _)).mono ?_; rintro e w1 ⟨rfl, hb1⟩; obtain ⟨c0, c1, c2⟩ := cell3 (s := ⟨⟨some ⟨g, off, none⟩, kn, kc, kd⟩, dft, ⟨ra, rn, rc, rl⟩⟩) (box_kept hb1); dsimp only at c0 c1 c2))
    clear HRI
    have HB1 := Lib.hid hb1
    clear hb1
    go_loopw [4, 5] (fun v i wr => ∃ j : Nat, j + 1 ≤ kn ∧ v = strV (flatLn (condLs kd j)) ∧ i = .int .i64 ((j + 1 : Nat) : Int) ∧ wr = w1) (fun _ i _ => kn - (intOf i).toNat)
    case atStart => exact ⟨0, by omega, rfl, rfl, rfl⟩
    case round =>
      obtain ⟨j, hj, rfl, rfl, rfl⟩ := hrel
      have hlj := HCL.out j hj
      obtain ⟨Y, hY⟩ : ∃ Y, Y = flatLn (condLs kd j) := ⟨_, rfl⟩
      rw [← hY] at hlj ⊢
      have HY := Lib.hid hY
      clear hY
      by_cases hlt : j + 1 < kn
      · have hlt' : ((j + 1 : Nat) : Int) < (kn : Int) := by omega
        obtain ⟨i, hi⟩ : ∃ i, i = j + 1 := ⟨_, rfl⟩
        rw [← hi] at hlt hlt' ⊢
        obtain ⟨d0, d1⟩ := (HC.out i hlt).below hg HB1.out.out
        obtain ⟨l, hl1, hl2, hl3⟩ := nm_eta (kd i).nm
        rw [hl1] at d0
        have hl12 : l.length ≤ 12 := by rw [hl3]; exact HNM.out i hlt
        cases hx : (kd i).ex
        · rw [hx] at d1
          have HZ := Lib.hid (show flatLn (condLs kd (j + 1)) = ((Y ++ [37, 115, 32]) ++ l) ++ [10] by
            rw [condLs_succ, flat_one, ← HY.out, ← hi]
            unfold condT nmL
            rw [hx, ← hl2]; simp)
          have ha0 := fun w => str_add Y [37, 115, 32] (by (try simp only [List.length_append, List.length_cons, List.length_nil]); omega) w
          have ha1 := fun w => str_add (Y ++ [37, 115, 32]) l (by (try simp only [List.length_append, List.length_cons, List.length_nil]); omega) w
          have ha2 := fun w => str_add ((Y ++ [37, 115, 32]) ++ l) [10] (by (try simp only [List.length_append, List.length_cons, List.length_nil]); omega) w
          generalize Y ++ [37, 115, 32] = Y1 at HZ ha0 ha1 ha2
          generalize Y1 ++ l = Y2 at HZ ha1 ha2
          generalize Y2 ++ [10] = Y3 at HZ ha2
          have HI := Lib.hid hi
          clear hl1 hl2 hl3 hx hi
          go_wp2
          go_roundw
          case rel => exact ⟨i, by omega, by rw [HI.out, HZ.out], by go_num, trivial⟩
          case measure => simp [intOf]; omega
        · rw [hx] at d1
          have HZ := Lib.hid (show flatLn (condLs kd (j + 1)) = ((Y ++ [37, 120, 32]) ++ l) ++ [10] by
            rw [condLs_succ, flat_one, ← HY.out, ← hi]
            unfold condT nmL
            rw [hx, ← hl2]; simp)
          have ha0 := fun w => str_add Y [37, 120, 32] (by (try simp only [List.length_append, List.length_cons, List.length_nil]); omega) w
          have ha1 := fun w => str_add (Y ++ [37, 120, 32]) l (by (try simp only [List.length_append, List.length_cons, List.length_nil]); omega) w
          have ha2 := fun w => str_add ((Y ++ [37, 120, 32]) ++ l) [10] (by (try simp only [List.length_append, List.length_cons, List.length_nil]); omega) w
          generalize Y ++ [37, 120, 32] = Y1 at HZ ha0 ha1 ha2
          generalize Y1 ++ l = Y2 at HZ ha1 ha2
          generalize Y2 ++ [10] = Y3 at HZ ha2
          have HI := Lib.hid hi
          clear hl1 hl2 hl3 hx hi
          go_wp2
          go_roundw
          case rel => exact ⟨i, by omega, by rw [HI.out, HZ.out], by go_num, trivial⟩
          case measure => simp [intOf]; omega
      · have hlt' : ¬ ((j + 1 : Nat) : Int) < (kn : Int) := by omega
        obtain ⟨P, hP⟩ : ∃ P, P = preT ⟨⟨some ⟨g, off, none⟩, kn, kc, kd⟩, dft, ⟨ra, rn, rc, rl⟩⟩ := ⟨_, rfl⟩
        have hP2 : P = (Y ++ (if dft = true then [] else [37, 110, 111, 100, 101, 102, 97, 117, 108, 116, 10])) ++ [37, 37, 10] := by
          rw [hP]
          unfold preT
          dsimp only
          rw [show kn - 1 = j by omega, ← HY.out]; simp
        have hPl : P.length ≤ 200 := by rw [hP2]; cases dft <;> simp <;> omega
        rw [← hP] at HTX
        have HPL := Lib.hid hPl
        clear hP hPl HC HCL
        cases dft
        · simp only [Bool.false_eq_true, if_false] at hP2
          have ha0 := fun w => str_add Y [37, 110, 111, 100, 101, 102, 97, 117, 108, 116, 10] (by (try simp only [List.length_append, List.length_cons, List.length_nil]); omega) w
          have ha1 := fun w => str_add (Y ++ [37, 110, 111, 100, 101, 102, 97, 117, 108, 116, 10]) [37, 37, 10] (by (try simp only [List.length_append, List.length_cons, List.length_nil]); omega) w
          rw [← hP2] at ha1
          generalize Y ++ [37, 110, 111, 100, 101, 102, 97, 117, 108, 116, 10] = Y1 at ha0 ha1
          clear hP2
          go_wp2
          go_loopw [4, 6] (fun v i wr => ∃ q : Nat, q ≤ rn ∧ v = strV (P ++ flatLn (ruleLs rl kd q)) ∧ i = .int .i64 q ∧ Hid (Bx w (.cells (row3 ⟨⟨some ⟨g, off, none⟩, kn, kc, kd⟩, false, ⟨ra, rn, rc, rl⟩⟩) 29) wr)) (fun _ i _ => rn - (intOf i).toNat)
          case atStart => exact ⟨0, by omega, by simp [ruleLs, flatLn], rfl, HB1⟩
          case round =>
            obtain ⟨q, hq, rfl, rfl, HBX⟩ := hrel
            have hlq := HRL.out q hq
            have hPl := HPL.out
            obtain ⟨Y, hY⟩ : ∃ Y, Y = P ++ flatLn (ruleLs rl kd q) := ⟨_, rfl⟩
            have hYl : Y.length ≤ 240016640 := by rw [hY, List.length_append]; omega
            rw [← hY]
            have HY := Lib.hid hY
            clear hY hlq hPl
            by_cases hlt : q < rn
            · have hlt' : (q : Int) < (rn : Int) := by omega
              obtain ⟨g', off', rfl, hg', hA1⟩ := HRA.out (by omega)
              have HL1 : Hid (∀ w1, Bx w (.cells (row3 ⟨⟨some ⟨g, off, none⟩, kn, kc, kd⟩, false, ⟨some ⟨g', off', none⟩, rn, rc, rl⟩⟩) 29) w1 → (loadCells ⟨g', off' + q * 22, none⟩ (row22 (rl q)).toList.length).run Tryz.prog w1 = .ok (row22 (rl q)).toList.toArray w1) := Lib.hid fun w1 hb => ldAt22 ((hA1 q hlt).below hg' hb.out)
              have HCL := Lib.hid (HLI.out q hlt (.cells (row3 ⟨⟨some ⟨g, off, none⟩, kn, kc, kd⟩, false, ⟨some ⟨g', off', none⟩, rn, rc, rl⟩⟩) 29))
              have HX := Lib.hid (fun w1 (hb : Bx w (.cells (row3 ⟨⟨some ⟨g, off, none⟩, kn, kc, kd⟩, false, ⟨some ⟨g', off', none⟩, rn, rc, rl⟩⟩) 29) w1) => (cell3 (s := ⟨⟨some ⟨g, off, none⟩, kn, kc, kd⟩, false, ⟨some ⟨g', off', none⟩, rn, rc, rl⟩⟩) (box_kept hb)))
              have hrl := HRT.out q hlt
              obtain ⟨L, hL⟩ : ∃ L, L = ruleT (rl q) kd ++ [10] := ⟨_, rfl⟩
              have hLl : L.length ≤ 6000401 := by rw [hL, List.length_append]; simp only [List.length_cons, List.length_nil]; omega
              have HZ := Lib.hid (show P ++ flatLn (ruleLs rl kd (q + 1)) = Y ++ L by rw [ruleLs_succ, flat_one, HY.out, hL]; simp)
              rw [← hL] at HCL
              obtain ⟨x, hx⟩ : ∃ x, x = rl q := ⟨_, rfl⟩
              rw [← hx] at HL1 HCL
              have ha := fun w => str_add Y L (by omega) w
              generalize Y ++ L = Z at HZ ha
              clear hx hA1 hrl hL
              obtain ⟨p0, p1, p2⟩ := HX.out wr HBX.out
              dsimp only at p0 p1 p2
              go_wp2
              refine wp_region_held_drew (S := fun w' => Bx w (.cells (row3 ⟨⟨some ⟨g, off, none⟩, kn, kc, kd⟩, false, ⟨some ⟨g', off', none⟩, rn, rc, rl⟩⟩) 29) w') (by kernel_rfl) HBX.out.drew (fun hHeld => ?_)
              refine wpAnyH_take (i := 0) (oi := { dst := some 57, op := Op.move (Operand.tmp 4), type := 9, pos := "ref.go:130", after := #[], guard := none }) (v := ?_) rfl (by kernel_rfl) (by kernel_rfl) (by kernel_rfl) (fun _ _ _ h => h) (Or.inl ⟨by rfl, ?_⟩) (by assumption) ?_
              rotate_left
              · (intro w hSw; (try dsimp only at hSw); go_simp; try with_reducible rfl)
              try simp only [Act.put, List.setIfInBounds_toArray, List.set_cons_zero, List.set_cons_succ]
              refine wpAnyH_take (i := 1) (oi := { dst := some 58, op := Op.load 29 (Operand.tmp 1), type := 29, pos := "ref.go:130", after := #[], guard := none }) (v := specV ⟨⟨some ⟨g, off, none⟩, kn, kc, kd⟩, false, ⟨some ⟨g', off', none⟩, rn, rc, rl⟩⟩) rfl (by kernel_rfl) (by kernel_rfl) (by kernel_rfl) (fun _ _ _ h => h) (Or.inl ⟨by rfl, ?_⟩) (by assumption) ?_
              · exact fun w' hSw => exec_load25 (.tmp 1) rfl w.heap.size rfl ⟨⟨some ⟨g, off, none⟩, kn, kc, kd⟩, false, ⟨some ⟨g', off', none⟩, rn, rc, rl⟩⟩ (box_kept hSw)
              try simp only [Act.put, List.setIfInBounds_toArray, List.set_cons_zero, List.set_cons_succ]
              refine wpAnyH_take (i := 2) (oi := { dst := some 59, op := Op.fieldAddr 29 (Operand.tmp 1) 2, type := 0, pos := "ref.go:130", after := #[], guard := none }) (v := ?_) rfl (by kernel_rfl) (by kernel_rfl) (by kernel_rfl) (fun _ _ _ h => h) (Or.inl ⟨by rfl, ?_⟩) (by assumption) ?_
              rotate_left
              · (intro w hSw; (try dsimp only at hSw); go_simp; try with_reducible rfl)
              try simp only [Act.put, List.setIfInBounds_toArray, List.set_cons_zero, List.set_cons_succ]
              refine wpAnyH_take (i := 3) (oi := { dst := some 60, op := Op.load 27 (Operand.tmp 59), type := 27, pos := "ref.go:130", after := #[{ on := 2, ground := Ground.data }], guard := none }) (v := ?_) rfl (by kernel_rfl) (by kernel_rfl) (by kernel_rfl) (fun _ _ _ h => h) (Or.inl ⟨by rfl, ?_⟩) (by assumption) ?_
              rotate_left
              · (intro w' hSw; obtain ⟨x0, x1, x2⟩ := HX.out w' hSw; (try dsimp only at x0 x1 x2); go_simp; try with_reducible rfl)
              try simp only [Act.put, List.setIfInBounds_toArray, List.set_cons_zero, List.set_cons_succ]
              refine wpAnyH_take (i := 4) (oi := { dst := some 61, op := Op.move (Operand.tmp 6), type := 3, pos := "ref.go:130", after := #[], guard := none }) (v := ?_) rfl (by kernel_rfl) (by kernel_rfl) (by kernel_rfl) (fun _ _ _ h => h) (Or.inl ⟨by rfl, ?_⟩) (by assumption) ?_
              rotate_left
              · (intro w hSw; (try dsimp only at hSw); go_simp; try with_reducible rfl)
              try simp only [Act.put, List.setIfInBounds_toArray, List.set_cons_zero, List.set_cons_succ]
              refine wpAnyH_take (i := 5) (oi := { dst := some 62, op := Op.indexAddr 27 (Operand.tmp 60) (Operand.tmp 61), type := 0, pos := "ref.go:130", after := #[{ on := 3, ground := Ground.data }, { on := 4, ground := Ground.data }], guard := none }) (v := ?_) rfl (by kernel_rfl) (by kernel_rfl) (by kernel_rfl) (fun _ _ _ h => h) (Or.inl ⟨by rfl, ?_⟩) (by assumption) ?_
              rotate_left
              · (intro w hSw; (try dsimp only at hSw); go_simp; try with_reducible rfl)
              try simp only [Act.put, List.setIfInBounds_toArray, List.set_cons_zero, List.set_cons_succ]
              refine wpAnyH_take (i := 6) (oi := { dst := some 63, op := Op.load 43 (Operand.tmp 62), type := 43, pos := "ref.go:130", after := #[{ on := 5, ground := Ground.data }], guard := none }) (v := ruleV x) rfl (by kernel_rfl) (by kernel_rfl) (by kernel_rfl) (fun _ _ _ h => h) (Or.inl ⟨by rfl, ?_⟩) (by assumption) ?_
              · exact fun w' hSw => exec_load42 (.tmp 62) rfl g' (off' + q * 22) rfl x (HL1.out w' hSw)
              try simp only [Act.put, List.setIfInBounds_toArray, List.set_cons_zero, List.set_cons_succ]
              refine wpAnyH_ready (rs := [7]) (by kernel_rfl) (by simp) ?_
              refine AllReadyH.cons (o := { dst := some 64, op := Op.call { callee := Callee.value (Operand.func 62), args := #[Operand.tmp 58, Operand.tmp 63], argTypes := #[29, 43] }, type := 9, pos := "ref.go:130", after := #[{ on := 1, ground := Ground.data }, { on := 6, ground := Ground.data }], guard := none }) rfl (fun K hK => ?_) AllReadyH.nil
              go_simp
              refine (HCL.out _ hHeld).mono ?_
              rintro e w2 ⟨rfl, hb2⟩
              go_wp2_with fail
              refine hK.out _ _ ?_ (fun hHeld => ?_)
              · exact hb2
              clear hK K
              try simp only [Act.put, List.setIfInBounds_toArray, List.set_cons_zero, List.set_cons_succ]
              refine wpAnyH_take (i := 8) (oi := { dst := some 65, op := Op.binOp BinOp.add 9 (Operand.tmp 57) (Operand.tmp 64) 9, type := 9, pos := "ref.go:130", after := #[{ on := 0, ground := Ground.data }, { on := 7, ground := Ground.data }], guard := none }) (v := ?_) rfl (by kernel_rfl) (by kernel_rfl) (by kernel_rfl) (fun _ _ _ h => h) (Or.inl ⟨by rfl, ?_⟩) (by assumption) ?_
              rotate_left
              · (intro w hSw; (try dsimp only at hSw); go_simp; try with_reducible rfl)
              try simp only [Act.put, List.setIfInBounds_toArray, List.set_cons_zero, List.set_cons_succ]
              refine wpAnyH_take (i := 9) (oi := { dst := some 4, op := Op.assign (Operand.tmp 65), type := 9, pos := "ref.go:130", after := #[{ on := 8, ground := Ground.data }, { on := 7, ground := Ground.chain }, { on := 0, ground := Ground.phase }, { on := 1, ground := Ground.phase }, { on := 2, ground := Ground.phase }, { on := 3, ground := Ground.phase }, { on := 4, ground := Ground.phase }, { on := 5, ground := Ground.phase }, { on := 6, ground := Ground.phase }, { on := 7, ground := Ground.phase }, { on := 8, ground := Ground.phase }], guard := none }) (v := ?_) rfl (by kernel_rfl) (by kernel_rfl) (by kernel_rfl) (fun _ _ _ h => h) (Or.inl ⟨by rfl, ?_⟩) (by assumption) ?_
              rotate_left
              · (intro w hSw; (try dsimp only at hSw); go_simp; try with_reducible rfl)
              try simp only [Act.put, List.setIfInBounds_toArray, List.set_cons_zero, List.set_cons_succ]
              refine wpAnyH_done (by kernel_rfl) ?_ _
              go_wp2
              go_roundw
              case rel => exact ⟨q + 1, by omega, by rw [HZ.out], by go_num, Lib.hid hb2⟩
              case measure => simp [intOf]; omega
            · have hlt' : ¬ (q : Int) < (rn : Int) := by omega
              obtain rfl : rn = q := by omega
              obtain ⟨x0, x1, x2⟩ := cell3 (s := ⟨⟨some ⟨g, off, none⟩, kn, kc, kd⟩, false, ⟨ra, rn, rc, rl⟩⟩) (box_kept HBX.out)
              dsimp only at x0 x1 x2
              go_wp2
              go_ret2
              exact ⟨congrArg (fun T => Ending.returned (.tuple #[strV T, .int .i64 0])) (show Y = TX by rw [HTX.out, ← HY.out]), HBX.out.out⟩
        · simp only [if_true, List.append_nil] at hP2
          have ha1 := fun w => str_add Y [37, 37, 10] (by (try simp only [List.length_append, List.length_cons, List.length_nil]); omega) w
          rw [← hP2] at ha1
          clear hP2
          go_wp2
          go_loopw [4, 6] (fun v i wr => ∃ q : Nat, q ≤ rn ∧ v = strV (P ++ flatLn (ruleLs rl kd q)) ∧ i = .int .i64 q ∧ Hid (Bx w (.cells (row3 ⟨⟨some ⟨g, off, none⟩, kn, kc, kd⟩, true, ⟨ra, rn, rc, rl⟩⟩) 29) wr)) (fun _ i _ => rn - (intOf i).toNat)
          case atStart => exact ⟨0, by omega, by simp [ruleLs, flatLn], rfl, HB1⟩
          case round =>
            obtain ⟨q, hq, rfl, rfl, HBX⟩ := hrel
            have hlq := HRL.out q hq
            have hPl := HPL.out
            obtain ⟨Y, hY⟩ : ∃ Y, Y = P ++ flatLn (ruleLs rl kd q) := ⟨_, rfl⟩
            have hYl : Y.length ≤ 240016640 := by rw [hY, List.length_append]; omega
            rw [← hY]
            have HY := Lib.hid hY
            clear hY hlq hPl
            by_cases hlt : q < rn
            · have hlt' : (q : Int) < (rn : Int) := by omega
              obtain ⟨g', off', rfl, hg', hA1⟩ := HRA.out (by omega)
              have HL1 : Hid (∀ w1, Bx w (.cells (row3 ⟨⟨some ⟨g, off, none⟩, kn, kc, kd⟩, true, ⟨some ⟨g', off', none⟩, rn, rc, rl⟩⟩) 29) w1 → (loadCells ⟨g', off' + q * 22, none⟩ (row22 (rl q)).toList.length).run Tryz.prog w1 = .ok (row22 (rl q)).toList.toArray w1) := Lib.hid fun w1 hb => ldAt22 ((hA1 q hlt).below hg' hb.out)
              have HCL := Lib.hid (HLI.out q hlt (.cells (row3 ⟨⟨some ⟨g, off, none⟩, kn, kc, kd⟩, true, ⟨some ⟨g', off', none⟩, rn, rc, rl⟩⟩) 29))
              have HX := Lib.hid (fun w1 (hb : Bx w (.cells (row3 ⟨⟨some ⟨g, off, none⟩, kn, kc, kd⟩, true, ⟨some ⟨g', off', none⟩, rn, rc, rl⟩⟩) 29) w1) => (cell3 (s := ⟨⟨some ⟨g, off, none⟩, kn, kc, kd⟩, true, ⟨some ⟨g', off', none⟩, rn, rc, rl⟩⟩) (box_kept hb)))
              have hrl := HRT.out q hlt
              obtain ⟨L, hL⟩ : ∃ L, L = ruleT (rl q) kd ++ [10] := ⟨_, rfl⟩
              have hLl : L.length ≤ 6000401 := by rw [hL, List.length_append]; simp only [List.length_cons, List.length_nil]; omega
              have HZ := Lib.hid (show P ++ flatLn (ruleLs rl kd (q + 1)) = Y ++ L by rw [ruleLs_succ, flat_one, HY.out, hL]; simp)
              rw [← hL] at HCL
              obtain ⟨x, hx⟩ : ∃ x, x = rl q := ⟨_, rfl⟩
              rw [← hx] at HL1 HCL
              have ha := fun w => str_add Y L (by omega) w
              generalize Y ++ L = Z at HZ ha
              clear hx hA1 hrl hL
              obtain ⟨p0, p1, p2⟩ := HX.out wr HBX.out
              dsimp only at p0 p1 p2
              go_wp2
              refine wp_region_held_drew (S := fun w' => Bx w (.cells (row3 ⟨⟨some ⟨g, off, none⟩, kn, kc, kd⟩, true, ⟨some ⟨g', off', none⟩, rn, rc, rl⟩⟩) 29) w') (by kernel_rfl) HBX.out.drew (fun hHeld => ?_)
              refine wpAnyH_take (i := 0) (oi := { dst := some 57, op := Op.move (Operand.tmp 4), type := 9, pos := "ref.go:130", after := #[], guard := none }) (v := ?_) rfl (by kernel_rfl) (by kernel_rfl) (by kernel_rfl) (fun _ _ _ h => h) (Or.inl ⟨by rfl, ?_⟩) (by assumption) ?_
              rotate_left
              · (intro w hSw; (try dsimp only at hSw); go_simp; try with_reducible rfl)
              try simp only [Act.put, List.setIfInBounds_toArray, List.set_cons_zero, List.set_cons_succ]
              refine wpAnyH_take (i := 1) (oi := { dst := some 58, op := Op.load 29 (Operand.tmp 1), type := 29, pos := "ref.go:130", after := #[], guard := none }) (v := specV ⟨⟨some ⟨g, off, none⟩, kn, kc, kd⟩, true, ⟨some ⟨g', off', none⟩, rn, rc, rl⟩⟩) rfl (by kernel_rfl) (by kernel_rfl) (by kernel_rfl) (fun _ _ _ h => h) (Or.inl ⟨by rfl, ?_⟩) (by assumption) ?_
              · exact fun w' hSw => exec_load25 (.tmp 1) rfl w.heap.size rfl ⟨⟨some ⟨g, off, none⟩, kn, kc, kd⟩, true, ⟨some ⟨g', off', none⟩, rn, rc, rl⟩⟩ (box_kept hSw)
              try simp only [Act.put, List.setIfInBounds_toArray, List.set_cons_zero, List.set_cons_succ]
              refine wpAnyH_take (i := 2) (oi := { dst := some 59, op := Op.fieldAddr 29 (Operand.tmp 1) 2, type := 0, pos := "ref.go:130", after := #[], guard := none }) (v := ?_) rfl (by kernel_rfl) (by kernel_rfl) (by kernel_rfl) (fun _ _ _ h => h) (Or.inl ⟨by rfl, ?_⟩) (by assumption) ?_
              rotate_left
              · (intro w hSw; (try dsimp only at hSw); go_simp; try with_reducible rfl)
              try simp only [Act.put, List.setIfInBounds_toArray, List.set_cons_zero, List.set_cons_succ]
              refine wpAnyH_take (i := 3) (oi := { dst := some 60, op := Op.load 27 (Operand.tmp 59), type := 27, pos := "ref.go:130", after := #[{ on := 2, ground := Ground.data }], guard := none }) (v := ?_) rfl (by kernel_rfl) (by kernel_rfl) (by kernel_rfl) (fun _ _ _ h => h) (Or.inl ⟨by rfl, ?_⟩) (by assumption) ?_
              rotate_left
              · (intro w' hSw; obtain ⟨x0, x1, x2⟩ := HX.out w' hSw; (try dsimp only at x0 x1 x2); go_simp; try with_reducible rfl)
              try simp only [Act.put, List.setIfInBounds_toArray, List.set_cons_zero, List.set_cons_succ]
              refine wpAnyH_take (i := 4) (oi := { dst := some 61, op := Op.move (Operand.tmp 6), type := 3, pos := "ref.go:130", after := #[], guard := none }) (v := ?_) rfl (by kernel_rfl) (by kernel_rfl) (by kernel_rfl) (fun _ _ _ h => h) (Or.inl ⟨by rfl, ?_⟩) (by assumption) ?_
              rotate_left
              · (intro w hSw; (try dsimp only at hSw); go_simp; try with_reducible rfl)
              try simp only [Act.put, List.setIfInBounds_toArray, List.set_cons_zero, List.set_cons_succ]
              refine wpAnyH_take (i := 5) (oi := { dst := some 62, op := Op.indexAddr 27 (Operand.tmp 60) (Operand.tmp 61), type := 0, pos := "ref.go:130", after := #[{ on := 3, ground := Ground.data }, { on := 4, ground := Ground.data }], guard := none }) (v := ?_) rfl (by kernel_rfl) (by kernel_rfl) (by kernel_rfl) (fun _ _ _ h => h) (Or.inl ⟨by rfl, ?_⟩) (by assumption) ?_
              rotate_left
              · (intro w hSw; (try dsimp only at hSw); go_simp; try with_reducible rfl)
              try simp only [Act.put, List.setIfInBounds_toArray, List.set_cons_zero, List.set_cons_succ]
              refine wpAnyH_take (i := 6) (oi := { dst := some 63, op := Op.load 43 (Operand.tmp 62), type := 43, pos := "ref.go:130", after := #[{ on := 5, ground := Ground.data }], guard := none }) (v := ruleV x) rfl (by kernel_rfl) (by kernel_rfl) (by kernel_rfl) (fun _ _ _ h => h) (Or.inl ⟨by rfl, ?_⟩) (by assumption) ?_
              · exact fun w' hSw => exec_load42 (.tmp 62) rfl g' (off' + q * 22) rfl x (HL1.out w' hSw)
              try simp only [Act.put, List.setIfInBounds_toArray, List.set_cons_zero, List.set_cons_succ]
              refine wpAnyH_ready (rs := [7]) (by kernel_rfl) (by simp) ?_
              refine AllReadyH.cons (o := { dst := some 64, op := Op.call { callee := Callee.value (Operand.func 62), args := #[Operand.tmp 58, Operand.tmp 63], argTypes := #[29, 43] }, type := 9, pos := "ref.go:130", after := #[{ on := 1, ground := Ground.data }, { on := 6, ground := Ground.data }], guard := none }) rfl (fun K hK => ?_) AllReadyH.nil
              go_simp
              refine (HCL.out _ hHeld).mono ?_
              rintro e w2 ⟨rfl, hb2⟩
              go_wp2_with fail
              refine hK.out _ _ ?_ (fun hHeld => ?_)
              · exact hb2
              clear hK K
              try simp only [Act.put, List.setIfInBounds_toArray, List.set_cons_zero, List.set_cons_succ]
              refine wpAnyH_take (i := 8) (oi := { dst := some 65, op := Op.binOp BinOp.add 9 (Operand.tmp 57) (Operand.tmp 64) 9, type := 9, pos := "ref.go:130", after := #[{ on := 0, ground := Ground.data }, { on := 7, ground := Ground.data }], guard := none }) (v := ?_) rfl (by kernel_rfl) (by kernel_rfl) (by kernel_rfl) (fun _ _ _ h => h) (Or.inl ⟨by rfl, ?_⟩) (by assumption) ?_
              rotate_left
              · (intro w hSw; (try dsimp only at hSw); go_simp; try with_reducible rfl)
              try simp only [Act.put, List.setIfInBounds_toArray, List.set_cons_zero, List.set_cons_succ]
              refine wpAnyH_take (i := 9) (oi := { dst := some 4, op := Op.assign (Operand.tmp 65), type := 9, pos := "ref.go:130", after := #[{ on := 8, ground := Ground.data }, { on := 7, ground := Ground.chain }, { on := 0, ground := Ground.phase }, { on := 1, ground := Ground.phase }, { on := 2, ground := Ground.phase }, { on := 3, ground := Ground.phase }, { on := 4, ground := Ground.phase }, { on := 5, ground := Ground.phase }, { on := 6, ground := Ground.phase }, { on := 7, ground := Ground.phase }, { on := 8, ground := Ground.phase }], guard := none }) (v := ?_) rfl (by kernel_rfl) (by kernel_rfl) (by kernel_rfl) (fun _ _ _ h => h) (Or.inl ⟨by rfl, ?_⟩) (by assumption) ?_
              rotate_left
              · (intro w hSw; (try dsimp only at hSw); go_simp; try with_reducible rfl)
              try simp only [Act.put, List.setIfInBounds_toArray, List.set_cons_zero, List.set_cons_succ]
              refine wpAnyH_done (by kernel_rfl) ?_ _
              go_wp2
              go_roundw
              case rel => exact ⟨q + 1, by omega, by rw [HZ.out], by go_num, Lib.hid hb2⟩
              case measure => simp [intOf]; omega
            · have hlt' : ¬ (q : Int) < (rn : Int) := by omega
              obtain rfl : rn = q := by omega
              obtain ⟨x0, x1, x2⟩ := cell3 (s := ⟨⟨some ⟨g, off, none⟩, kn, kc, kd⟩, true, ⟨ra, rn, rc, rl⟩⟩) (box_kept HBX.out)
              dsimp only at x0 x1 x2
              go_wp2
              go_ret2
              exact ⟨congrArg (fun T => Ending.returned (.tuple #[strV T, .int .i64 0])) (show Y = TX by rw [HTX.out, ← HY.out]), HBX.out.out⟩
end Go.Proofs.YtnfchlkdppblfaaGreatDoor
