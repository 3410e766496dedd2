/- Contracts of the landed code's Right and Active. -/
import Derived.Test.YtnfchlkdppblfaaDoorCe
namespace Go.Proofs.YtnfchlkdppblfaaDoor
open Go.RowKit
/-- Patterns of rules that are not too great. -/
def Sm (l : Rs) : Prop := ∀ i, i < l.n → cnt (l.r i).rx ≤ 2000 ∧ cnt (l.r i).tr ≤ 2000
def rulesB (r : Nat → Rl) (n : Int) (j : Nat) : Bool := allTo (fun i => ruleB (r i) n) j
/-- Is a specification valid? -/
def specB (s : Sp) : Bool := condsB s.cs && (decide (s.rs.n ≤ 40) && rulesB s.rs.r s.cs.n s.rs.n)
set_option maxRecDepth 100000 in
set_option maxHeartbeats 4000000 in
theorem spright_any (s : Sp) (w : World) (h : SpIn w s) (hc : Sm s.rs) : Calls Tryd.prog 26 #[specV s] w fun e w' => e = .returned (.bool (specB s)) ∧ Below w.heap.size w w' := by
  obtain ⟨⟨ka, kn, kc, kd⟩, dft, ⟨ra, rn, rc, rl⟩⟩ := s
  have hk1 := h.1.1
  have hk2 := h.1.2.1
  have hr1 := h.2.1
  have hr2 := h.2.2.1
  have HCO : Hid (∀ o w1, Bx w o w1 → Calls Tryd.prog 51 #[.slice ka kn kc] w1 fun e w' => e = .returned (.bool (condsB ⟨ka, kn, kc, kd⟩)) ∧ Bx w o w') := Lib.hid fun o w1 hb => (conds_any ⟨ka, kn, kc, kd⟩ w1 (h.1.now hb.out)).mono fun e w' h => ⟨h.1, hb.to h.2⟩
  have HRU : Hid (∀ i, i < rn → ∀ w1, Below w.heap.size w w1 → Calls Tryd.prog 52 #[ruleV (rl i), .int .i64 kn] w1 fun e w' => e = .returned (.bool (ruleB (rl i) kn)) ∧ Below w1.heap.size w1 w') := Lib.hid fun i hi w1 hb => rule_any (rl i) kn w1 (by dsimp only at hk1 hk2; omega) ((h.2.2.2.2 i hi).now hb) (hc i hi).1 (hc i hi).2
  have HRA := Lib.hid h.2.2.2.1
  clear h hc
  dsimp only at hk1 hk2 hr1 hr2 HRA
  unfold maxLen at hk2 hr2
  obtain ⟨b, hb⟩ : ∃ b, b = specB ⟨⟨ka, kn, kc, kd⟩, dft, ⟨ra, rn, rc, rl⟩⟩ := ⟨_, rfl⟩
  rw [← hb]
  unfold specB at hb
  dsimp only at hb
  obtain ⟨b1, h1⟩ : ∃ x, x = condsB ⟨ka, kn, kc, kd⟩ := ⟨_, rfl⟩
  rw [← h1] at HCO hb
  clear h1
  cases b1
  · obtain rfl : b = false := hb
    clear HRU HRA
    go_enter Tryd.func26, Tryd.ntmps26
    go_wp2_with (first | (go_at_call 51; refine (HCO.out _ _ (Bx.refl _ _)).mono ?_; rintro e w1 ⟨rfl, hb1⟩))
    go_ret
    exact ⟨rfl, hb1.out⟩
  · by_cases h40 : rn ≤ 40
    · have i40 : ¬ (40 : Int) < (rn : Int) := by omega
      have HB := Lib.hid (show b = rulesB rl kn rn by rw [hb, decide_eq_true h40]; rfl)
      clear hb
      go_enter Tryd.func26, Tryd.ntmps26
      go_wp2_with (first | (go_at_call 51; refine (HCO.out _ _ (Bx.refl _ _)).mono ?_; rintro e w1 ⟨rfl, hb1⟩; obtain ⟨c0, c1, c2⟩ := cell3 (s := ⟨⟨ka, kn, kc, kd⟩, dft, ⟨ra, rn, rc, rl⟩⟩) (box_kept hb1)))
      clear c0 c1 c2 HCO
      go_loopw [18] (fun i wr => ∃ j : Nat, j ≤ rn ∧ i = .int .i64 j ∧ Hid (rulesB rl kn j = true) ∧ Bx w (.cells (row3 ⟨⟨ka, kn, kc, kd⟩, dft, ⟨ra, rn, rc, rl⟩⟩) 38) wr) (fun i _ => rn - (intOf i).toNat)
      case atStart => exact ⟨0, by omega, rfl, Lib.hid rfl, hb1⟩
      case round =>
        obtain ⟨j, hj, rfl, HA, hbr⟩ := hrel
        by_cases hlt : j < rn
        · obtain ⟨g, off, rfl, hg, hA⟩ := HRA.out (by omega)
          have HLD := Lib.hid (ldAt22 ((hA j hlt).below hg hbr.out))
          have HCL := Lib.hid (HRU.out j hlt)
          obtain ⟨r, hr⟩ : ∃ r, r = rl j := ⟨_, rfl⟩
          rw [← hr] at HLD HCL
          have HR := Lib.hid hr
          have HS := Lib.hid (show rulesB rl kn (j + 1) = ruleB r kn by
            show (rulesB rl kn j && ruleB (rl j) kn) = _
            rw [HA.out, hr]; rfl)
          have HF := Lib.hid (fun (q : ruleB r kn = false) => allTo_not (p := fun i => ruleB (rl i) kn) hlt (by show ruleB (rl j) kn = false; rw [← hr]; exact q))
          clear hA hr HRU
          obtain ⟨br, hbb⟩ : ∃ x, x = ruleB r kn := ⟨_, rfl⟩
          rw [← hbb] at HCL HS HF
          have HBR := Lib.hid hbr
          have hgr : g < wr.heap.size := by have := hbr.out.size; omega
          have c0 : ∀ o, (wr.alloc o).cell? ⟨w.heap.size, 0, none⟩ = some (.slice ka kn kc) := fun o => (cell3 (s := ⟨⟨ka, kn, kc, kd⟩, dft, ⟨some ⟨g, off, none⟩, rn, rc, rl⟩⟩) (box_kept (Bx.to hbr (alloc_below wr o)))).1
          clear hbb hbr
          cases br
          · go_wp2_with (first
              | (refine wpList_load42 _ rfl rfl _ _ rfl r HLD.out ?_)
              | (refine wpList_store42 _ _ rfl rfl rfl rfl rfl r rfl ?_)
              | (refine wpList_load42 _ rfl rfl _ _ rfl r (ld22 (heap_alloc_new wr _)) ?_)
              | (go_at_call 52; refine (HCL.out _ (HBR.out.out.trans ((alloc_below wr _).mono HBR.out.out.size))).mono ?_; rintro e w2 ⟨rfl, hb2⟩))
            go_ret
            exact ⟨ret_bool (by rw [HB.out]; exact (HF.out (by first | rfl | trivial)).symm), (Bx.to (Bx.to HBR.out (alloc_below wr _)) hb2).out⟩
          · go_wp2_with (first
              | (refine wpList_load42 _ rfl rfl _ _ rfl r HLD.out ?_)
              | (refine wpList_store42 _ _ rfl rfl rfl rfl rfl r rfl ?_)
              | (refine wpList_load42 _ rfl rfl _ _ rfl r (ld22 (heap_alloc_new wr _)) ?_)
              | (go_at_call 52; refine (HCL.out _ (HBR.out.out.trans ((alloc_below wr _).mono HBR.out.out.size))).mono ?_; rintro e w2 ⟨rfl, hb2⟩))
            go_roundw
            case rel => exact ⟨j + 1, by omega, by go_num, HS, Bx.to (Bx.to HBR.out (alloc_below wr _)) hb2⟩
            case measure => simp [intOf]; omega
        · obtain rfl : rn = j := by omega
          go_wp2
          go_ret
          exact ⟨ret_bool (by rw [HB.out, HA.out]), hbr.out⟩
    · have i40 : (40 : Int) < (rn : Int) := by omega
      obtain rfl : b = false := by rw [hb, decide_eq_false h40]; rfl
      clear HRU HRA hb
      go_enter Tryd.func26, Tryd.ntmps26
      go_wp2_with (first | (go_at_call 51; refine (HCO.out _ _ (Bx.refl _ _)).mono ?_; rintro e w1 ⟨rfl, hb1⟩; obtain ⟨c0, c1, c2⟩ := cell3 (s := ⟨⟨ka, kn, kc, kd⟩, dft, ⟨ra, rn, rc, rl⟩⟩) (box_kept hb1)))
      go_ret
      exact ⟨rfl, hb1.out⟩
end Go.Proofs.YtnfchlkdppblfaaDoor
