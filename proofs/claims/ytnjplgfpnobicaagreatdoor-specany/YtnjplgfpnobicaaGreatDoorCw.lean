/- The document's Name. -/
import Derived.Test.YtnjplgfpnobicaaGreatDoorCc
namespace Go.Proofs.YtnjplgfpnobicaaGreatDoor
open Go.RowKit
def nmsB (s : ByteArray) (j : Nat) : Bool := allTo (fun k => (decide (nx s k = 95) || letC (nx s k)) || (digC (nx s k) && decide (k ≠ 0))) j
theorem nmsB_eq (s : ByteArray) (h : 1 ≤ s.size) : (!digC (nx s 0) && allTo (fun k => nmC (nx s k)) s.size) = nmsB s s.size := by
  rw [Bool.eq_iff_iff]
  unfold nmsB
  simp only [Bool.and_eq_true, allTo_iff, nmC]
  constructor
  · rintro ⟨h0, ha⟩ i hi
    have := ha i hi
    by_cases h1 : i = 0
    · subst h1
      simp only [Bool.or_eq_true, Bool.and_eq_true] at this ⊢
      rcases this with q | q | q
      · exact Or.inl (Or.inl q)
      · exact Or.inl (Or.inr q)
      · rw [q] at h0; cases h0
    · simp only [Bool.or_eq_true, Bool.and_eq_true] at this ⊢
      rcases this with q | q | q
      · exact Or.inl (Or.inl q)
      · exact Or.inl (Or.inr q)
      · exact Or.inr ⟨q, decide_eq_true h1⟩
  · intro ha
    constructor
    · have := ha 0 (by omega)
      simp only [Bool.or_eq_true, Bool.and_eq_true, decide_eq_true_eq] at this
      rcases this with (q | q) | ⟨_, q⟩
      · rw [q]; rfl
      · cases hd : digC (nx s 0)
        · rfl
        · exfalso
          have h2 := digC_yes hd
          simp only [letC, Bool.or_eq_true, Bool.and_eq_true, decide_eq_true_eq] at q
          omega
      · exact absurd rfl q
    · intro i hi
      have := ha i hi
      simp only [Bool.or_eq_true, Bool.and_eq_true] at this ⊢
      rcases this with (q | q) | ⟨q, _⟩
      · exact Or.inl q
      · exact Or.inr (Or.inl q)
      · exact Or.inr (Or.inr q)
set_option maxRecDepth 100000 in
set_option maxHeartbeats 4000000 in
theorem refname_any (s : ByteArray) (w : World) (hs : s.size ≤ maxLen) : Calls Tryz.prog 44 #[.string s] w fun e w' => e = .returned (.bool (nameB s)) ∧ ∃ k, w' = w.drewN k := by
  unfold maxLen at hs
  obtain ⟨R, hR⟩ : ∃ R, R = nameB s := ⟨_, rfl⟩
  rw [← hR]
  unfold nameB at hR
  by_cases h1 : 1 ≤ s.size
  · have e0 : s.toList.isEmpty = false := by
      have := size_list s
      cases q : s.toList with
      | nil => rw [q] at this; simp at this; omega
      | cons a l => rfl
    by_cases h2 : s.size ≤ 12
    · have i2 : ¬ (12 : Int) < (s.size : Int) := by omega
      have HE := Lib.hid (show R = nmsB s s.size by rw [hR, decide_eq_true h1, decide_eq_true h2, Bool.true_and, Bool.true_and, nmsB_eq s h1])
      clear hR
      go_enter Tryz.func44, Tryz.ntmps44
      go_wp2
      go_loopw [3] (fun v wr => ∃ k : Nat, k ≤ s.size ∧ v = .int .i64 k ∧ Hid (nmsB s k = true) ∧ ∃ kk, wr = w.drewN kk) (fun v _ => s.size - (intOf v).toNat)
      case atStart => exact ⟨0, by omega, rfl, Lib.hid rfl, 0, rfl⟩
      case round =>
        obtain ⟨k, hk, rfl, HA, kk, rfl⟩ := hrel
        by_cases hlt : k < s.size
        · obtain ⟨y, hy⟩ : ∃ y, y = nx s k := ⟨_, rfl⟩
          have hwy : ((s[k].toNat : Nat) : Int) = y := by rw [hy, nx_in hlt]
          have HS := Lib.hid (show nmsB s (k + 1) = ((decide (y = 95) || letC y) || (digC y && decide (k ≠ 0))) by
            show (nmsB s k && ((decide (nx s k = 95) || letC (nx s k)) || (digC (nx s k) && decide (k ≠ 0)))) = _
            rw [HA.out, ← hy]; rfl)
          have HF := Lib.hid (fun (q : ((decide (y = 95) || letC y) || (digC y && decide (k ≠ 0))) = false) => allTo_not (p := fun k => (decide (nx s k = 95) || letC (nx s k)) || (digC (nx s k) && decide (k ≠ 0))) hlt (by show ((decide (nx s k = 95) || letC (nx s k)) || (digC (nx s k) && decide (k ≠ 0))) = false; rw [← hy]; exact q))
          clear hy
          by_cases g1 : 97 ≤ y
          · by_cases g2 : y ≤ 122
            · have g3 : (y == 95) = false := by simp; omega
              have HZ := Lib.hid (show nmsB s (k + 1) = true by rw [HS.out]; simp [letC, digC]; omega)
              go_wp2
              go_roundw
              case rel => exact ⟨k + 1, by omega, by go_num, HZ, _, rfl⟩
              case measure => simp [intOf]; omega
            · have g3 : 65 ≤ y := by omega
              have g4 : ¬ y ≤ 90 := by omega
              have g5 : (y == 95) = false := by simp; omega
              have g6 : ¬ y < 48 := by omega
              have g7 : 57 < y := by omega
              by_cases hk0 : k = 0
              · have hk0' : ((k : Int) == 0) = true := by simp [hk0]
                have HZ := Lib.hid (show R = false by rw [HE.out]; exact HF.out (by simp [letC, digC]; omega))
                clear hk0
                go_wp2
                go_ret
                exact ⟨ret_bool HZ.out.symm, _, rfl⟩
              · have hk0' : ((k : Int) == 0) = false := by simp; omega
                have HZ := Lib.hid (show R = false by rw [HE.out]; exact HF.out (by simp [letC, digC]; omega))
                go_wp2
                go_ret
                exact ⟨ret_bool HZ.out.symm, _, rfl⟩
          · by_cases g2 : 65 ≤ y
            · by_cases g3 : y ≤ 90
              · have g4 : (y == 95) = false := by simp; omega
                have HZ := Lib.hid (show nmsB s (k + 1) = true by rw [HS.out]; simp [letC, digC]; omega)
                go_wp2
                go_roundw
                case rel => exact ⟨k + 1, by omega, by go_num, HZ, _, rfl⟩
                case measure => simp [intOf]; omega
              · by_cases g4 : y = 95
                · have g4' : (y == 95) = true := by simp [g4]
                  have HZ := Lib.hid (show nmsB s (k + 1) = true by rw [HS.out]; simp [letC, digC]; omega)
                  go_wp2
                  go_roundw
                  case rel => exact ⟨k + 1, by omega, by go_num, HZ, _, rfl⟩
                  case measure => simp [intOf]; omega
                · have g4' : (y == 95) = false := by simp [g4]
                  have g6 : ¬ y < 48 := by omega
                  have g7 : 57 < y := by omega
                  by_cases hk0 : k = 0
                  · have hk0' : ((k : Int) == 0) = true := by simp [hk0]
                    have HZ := Lib.hid (show R = false by rw [HE.out]; exact HF.out (by simp [letC, digC]; omega))
                    clear hk0
                    go_wp2
                    go_ret
                    exact ⟨ret_bool HZ.out.symm, _, rfl⟩
                  · have hk0' : ((k : Int) == 0) = false := by simp; omega
                    have HZ := Lib.hid (show R = false by rw [HE.out]; exact HF.out (by simp [letC, digC]; omega))
                    go_wp2
                    go_ret
                    exact ⟨ret_bool HZ.out.symm, _, rfl⟩
            · have g5 : (y == 95) = false := by simp; omega
              by_cases hk0 : k = 0
              · have hk0' : ((k : Int) == 0) = true := by simp [hk0]
                have HZ := Lib.hid (show R = false by rw [HE.out]; exact HF.out (by simp [letC, digC]; omega))
                clear hk0
                go_wp2
                go_ret
                exact ⟨ret_bool HZ.out.symm, _, rfl⟩
              · have hk0' : ((k : Int) == 0) = false := by simp; omega
                by_cases g6 : y < 48
                · have HZ := Lib.hid (show R = false by rw [HE.out]; exact HF.out (by simp [letC, digC]; omega))
                  go_wp2
                  go_ret
                  exact ⟨ret_bool HZ.out.symm, _, rfl⟩
                · by_cases g7 : 57 < y
                  · have HZ := Lib.hid (show R = false by rw [HE.out]; exact HF.out (by simp [letC, digC]; omega))
                    go_wp2
                    go_ret
                    exact ⟨ret_bool HZ.out.symm, _, rfl⟩
                  · have HZ := Lib.hid (show nmsB s (k + 1) = true by rw [HS.out]; simp [letC, digC]; omega)
                    go_wp2
                    go_roundw
                    case rel => exact ⟨k + 1, by omega, by go_num, HZ, _, rfl⟩
                    case measure => simp [intOf]; omega
        · obtain rfl : k = s.size := by omega
          go_wp2
          go_ret
          exact ⟨ret_bool (by rw [HE.out, HA.out]), _, rfl⟩
    · have i2 : (12 : Int) < (s.size : Int) := by omega
      obtain rfl : R = false := by rw [hR, decide_eq_false h2, Bool.false_and, Bool.and_false]
      clear hR
      go_enter Tryz.func44, Tryz.ntmps44
      go_wp2
      go_ret
      exact ⟨rfl, 0, rfl⟩
  · obtain rfl : R = false := by rw [hR, decide_eq_false h1, Bool.false_and]
    have e0 : s.toList.isEmpty = true := by
      have := size_list s
      cases q : s.toList with
      | nil => rfl
      | cons a l => rw [q] at this; simp at this; omega
    clear hR
    go_enter Tryz.func44, Tryz.ntmps44
    go_wp2
    go_ret
    exact ⟨rfl, 0, rfl⟩
end Go.Proofs.YtnjplgfpnobicaaGreatDoor
