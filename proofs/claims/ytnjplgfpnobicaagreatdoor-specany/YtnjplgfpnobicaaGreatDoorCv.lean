/- The document's head of layer 6. -/
import Derived.Test.YtnjplgfpnobicaaGreatDoorCo
import Derived.Test.YtnjplgfpnobicaaGreatDoorCt
namespace Go.Proofs.YtnjplgfpnobicaaGreatDoor
open Go.RowKit Go
theorem join_snoc (x : List UInt8) : ∀ (l : List (List UInt8)), l ≠ [] → Lib.join (l ++ [x]) [44] = Lib.join l [44] ++ ([44] ++ x)
  | [], h => absurd rfl h
  | [y], _ => by show Lib.join (y :: x :: []) [44] = _; rw [join_cons]; simp [Lib.join]
  | y :: z :: l, _ => by
    show Lib.join (y :: z :: (l ++ [x])) [44] = _
    rw [join_cons, join_cons, show z :: (l ++ [x]) = (z :: l) ++ [x] from rfl, join_snoc x (z :: l) (by simp)]
    simp
/-- What stands behind the sign that begins it, of j conditions. -/
def hdT (r : Rl) (c : Nat → Cn) (j : Nat) : List UInt8 := [60] ++ Lib.join ((namesT r c j).map (·.data.toList)) [44]
theorem hdT_one (r : Rl) (c : Nat → Cn) : hdT r c 1 = hdT r c 0 ++ nmL (c (r.cs 0).toNat) := by simp [hdT, namesT, Lib.join, nmL]
theorem hdT_more (r : Rl) (c : Nat → Cn) (j : Nat) (hj : 0 < j) : hdT r c (j + 1) = (hdT r c j ++ [44]) ++ nmL (c (r.cs j).toNat) := by
  unfold hdT
  rw [namesT_succ, List.map_append]
  show [60] ++ Lib.join (_ ++ [(c (r.cs j).toNat).nm.data.toList]) [44] = _
  rw [join_snoc _ _ (fun e => by have := congrArg List.length e; rw [List.length_map, namesT_len] at this; simp at this; omega)]
  simp [nmL]
set_option maxRecDepth 100000 in
set_option maxHeartbeats 4000000 in
theorem refhead_any (s : Sp) (r : Rl) (w : World) (h : IntsIn w w.heap.size r.ca r.cn r.cc r.cs) (hl : CsIn w w.heap.size s.cs) (hs : startsB r s.cs.n = true) (hn : s.cs.n ≤ 8) (hnm : ∀ i, i < s.cs.n → (s.cs.c i).nm.size ≤ 12) :
    Calls Tryz.prog 69 #[specV s, ruleV r] w fun e w' => e = .returned (strV (startsT r s.cs.c)) ∧ Below w.heap.size w w' := by
  obtain ⟨⟨ka, kn, kc, kd⟩, dft, ⟨ra, rn, rc, rl⟩⟩ := s
  obtain ⟨X, hX⟩ : ∃ X, X = startsT r kd := ⟨_, rfl⟩
  show Calls Tryz.prog 69 #[specV ⟨⟨ka, kn, kc, kd⟩, dft, ⟨ra, rn, rc, rl⟩⟩, ruleV r] w fun e w' => e = .returned (strV (startsT r kd)) ∧ Below w.heap.size w w'
  rw [← hX]
  unfold startsT at hX
  have hm := hl.1
  have hm2 := hl.2.1
  have HA := Lib.hid hl.2.2.1
  have hq1 := h.1
  have hq2 := h.2.1
  have HI := Lib.hid h.2.2.1
  unfold startsB at hs
  dsimp only at hs hn hnm hm hm2 HA
  unfold maxLen at hm2 hq2
  clear hl h
  cases hal : r.all
  · rw [hal] at hs hX
    simp only [Bool.false_eq_true, if_false] at hs hX
    have hris := ris_le hs
    by_cases h0 : r.cn = 0
    · rw [if_pos h0] at hX
      subst hX
      obtain ⟨ca, cn, cc, cs, al, bo, rx, tr, ef, ac, to⟩ := r
      dsimp only at h0 hal
      subst h0 hal
      clear hris hs HI HA hnm hn hm hm2 hq1 hq2
      go_enter Tryz.func69, Tryz.ntmps69
      go_wp2
      go_ret
      exact ⟨rfl, alloc2_below _ _ _⟩
    · rw [if_neg h0] at hX
      have hcn : r.cn ≤ 8 := by have := hris (r.cn - 1) (by omega); omega
      have HRI := Lib.hid hris
      have HLEN : Hid (∀ j, j ≤ r.cn → (hdT r kd j).length ≤ 1 + 13 * j) := Lib.hid fun j hj => by
        have := join_len ((namesT r kd j).map (·.data.toList)) (by
          intro x hx
          simp only [List.mem_map, namesT, List.mem_range] at hx
          obtain ⟨y, ⟨i, hi', rfl⟩, rfl⟩ := hx
          have h1 := hris i (by omega)
          have h2 := hnm (r.cs i).toNat (by omega)
          rw [Array.length_toList]
          exact h2)
        rw [List.length_map, namesT_len] at this
        unfold hdT
        simp only [List.length_append, List.length_cons, List.length_nil]
        omega
      have HN12 := Lib.hid hnm
      have HX := Lib.hid (show X = hdT r kd r.cn ++ [62] by rw [hX]; rfl)
      clear hX hs hnm
      obtain ⟨g, off, hca, hg, hc⟩ := HI.out (by omega)
      have HC := Lib.hid hc
      clear hc
      obtain ⟨ca, cn, cc, cs, al, bo, rx, tr, ef, ac, to⟩ := r
      dsimp only at h0 hal hca hcn HX HRI HC HLEN hq1 hq2 hris
      subst hal hca
      have h0' : ((cn : Int) == 0) = false := by simp; omega
      obtain ⟨g2, off2, rfl, hg2, hc2⟩ := HA.out (by have := HRI.out 0 (by omega); omega)
      have HC2 := Lib.hid hc2
      clear hris HI hc2 HA
      go_enter Tryz.func69, Tryz.ntmps69
      go_wp2
      go_loopw [5, 6] (fun v i wr => ∃ j : Nat, j ≤ cn ∧ v = strV (hdT ⟨some ⟨g, off, none⟩, cn, cc, cs, false, bo, rx, tr, ef, ac, to⟩ kd j) ∧ i = .int .i64 j ∧ ∃ kk, wr = ((w.alloc (.cells (row3 ⟨⟨some ⟨g2, off2, none⟩, kn, kc, kd⟩, dft, ⟨ra, rn, rc, rl⟩⟩) 25)).alloc (.cells (row22 ⟨some ⟨g, off, none⟩, cn, cc, cs, false, bo, rx, tr, ef, ac, to⟩) 42)).drewN kk) (fun _ i _ => cn - (intOf i).toNat)
      case atStart => exact ⟨0, by omega, rfl, rfl, 0, rfl⟩
      case round =>
        obtain ⟨j, hj, rfl, rfl, kk, rfl⟩ := hrel
        have hlj := HLEN.out j hj
        by_cases hlt : j < cn
        · have hlt' : (j : Int) < (cn : Int) := by omega
          obtain ⟨k, hk⟩ : ∃ k : Nat, cs j = (k : Int) := ⟨(cs j).toNat, by have := (HRI.out j hlt).1; omega⟩
          have hkn : k < kn := by have := (HRI.out j hlt).2; omega
          have hkn' : (k : Int) < (kn : Int) := by omega
          have c0 : ∀ o o', ((w.alloc o).alloc o').cell? ⟨g, off + j, none⟩ = some (.int .i64 (k : Int)) := fun o o' => ((alloc2_below w o o').cell (p := ⟨g, _, none⟩) hg).trans ((HC.out j hlt).trans (by rw [hk]))
          obtain ⟨l, hl1, hl2, hl3⟩ := nm_eta (kd k).nm
          have d0 : ∀ o o', ((w.alloc o).alloc o').cell? ⟨g2, off2 + k * 2, none⟩ = some (.string ⟨l.toArray⟩) := fun o o' => by rw [← hl1]; exact ((HC2.out k hkn).below hg2 (alloc2_below w o o')).1
          have hl12 : l.length ≤ 12 := by rw [hl3]; exact HN12.out k hkn
          have HNL := Lib.hid (show nmL (kd (cs j).toNat) = l by rw [show (cs j).toNat = k by omega]; unfold nmL; rw [hl2])
          obtain ⟨Y, hY⟩ : ∃ Y, Y = hdT ⟨some ⟨g, off, none⟩, cn, cc, cs, false, bo, rx, tr, ef, ac, to⟩ kd j := ⟨_, rfl⟩
          rw [← hY] at hlj ⊢
          have HY := Lib.hid hY
          clear hl1 hl2 hl3 hY
          by_cases hj0 : j = 0
          · have HZ := Lib.hid (show hdT ⟨some ⟨g, off, none⟩, cn, cc, cs, false, bo, rx, tr, ef, ac, to⟩ kd (j + 1) = Y ++ l by rw [HY.out, ← HNL.out, hj0]; exact hdT_one _ _)
            have ha := fun w => str_add Y l (by omega) w
            have hj0' : ¬ (0 : Int) < (j : Int) := by omega
            generalize Y ++ l = Z at HZ ha
            clear hj0
            go_wp2
            go_quiet (fail)
            go_wp2
            go_roundw
            case rel => exact ⟨j + 1, by omega, by rw [HZ.out], by go_num, _, rfl⟩
            case measure => simp [intOf]; omega
          · have HZ := Lib.hid (show hdT ⟨some ⟨g, off, none⟩, cn, cc, cs, false, bo, rx, tr, ef, ac, to⟩ kd (j + 1) = (Y ++ [44]) ++ l by rw [HY.out, ← HNL.out]; exact hdT_more _ _ _ (by omega))
            have hj0' : (0 : Int) < (j : Int) := by omega
            have ha1 := fun w => str_add Y [44] (by simp only [List.length_cons, List.length_nil]; omega) w
            have ha := fun w => str_add (Y ++ [44]) l (by rw [List.length_append]; simp only [List.length_cons, List.length_nil]; omega) w
            generalize Y ++ [44] = Y1 at HZ ha ha1
            generalize Y1 ++ l = Z at HZ ha
            go_wp2
            go_quiet (fail)
            go_wp2
            go_roundw
            case rel => exact ⟨j + 1, by omega, by rw [HZ.out], by go_num, _, rfl⟩
            case measure => simp [intOf]; omega
        · have hlt' : ¬ (j : Int) < (cn : Int) := by omega
          obtain rfl : j = cn := by omega
          obtain ⟨Y, hY⟩ : ∃ Y, Y = hdT ⟨some ⟨g, off, none⟩, j, cc, cs, false, bo, rx, tr, ef, ac, to⟩ kd j := ⟨_, rfl⟩
          rw [← hY] at hlj HX ⊢
          have ha := fun w => str_add Y [62] (by simp only [List.length_cons, List.length_nil]; omega) w
          rw [← HX.out] at ha
          clear hY
          go_wp2
          go_ret
          exact ⟨rfl, below_drewN (alloc2_below _ _ _) _⟩
  · rw [hal, if_pos rfl] at hX
    subst hX
    obtain ⟨ca, cn, cc, cs, al, bo, rx, tr, ef, ac, to⟩ := r
    dsimp only at hal
    subst hal
    clear hs HI HA
    go_enter Tryz.func69, Tryz.ntmps69
    go_wp2
    go_ret
    exact ⟨rfl, alloc2_below _ _ _⟩
end Go.Proofs.YtnjplgfpnobicaaGreatDoor
