/- Contract of the document's own right and Right of layer 3. -/
import Derived.Test.YtbahadgcmaabcaaBe
import Derived.Test.YtbahadgcmaabcaaBc
namespace Go.Proofs.Ytbahadgcmaabcaa
open Go.RowKit
set_option maxRecDepth 100000 in
set_option maxHeartbeats 8000000 in
theorem right_rep (s : Nat → Int) (lo hi : Int) (a : Option Addr) (n cap : Nat) (kid : Nat → Tr) (lv : Nat) (hlv : 0 < lv) (h20 : lv ≤ 20) (w : World) (hL : Lives w w.heap.size (.node 5 s lo hi a n cap kid))
    (ih : ∀ i, i < n → ∀ w, Lives w w.heap.size (kid i) → Calls Try.prog 44 #[(kid i).val, .int .i64 ((lv - 1 : Nat) : Int)] w fun e w' => e = .returned (.bool (okT (kid i) (lv - 1))) ∧ Below w.heap.size w w') :
    Calls Try.prog 44 #[nodeV 5 s lo hi (.slice a n cap), .int .i64 lv] w fun e w' => e = .returned (.bool (countsB lo hi && (eqS s z0 && (decide (n = 1) && okT (kid 0) (lv - 1))))) ∧ Below w.heap.size w w' := by
  have hl1 : ¬ (lv : Int) < 1 := by omega
  obtain ⟨R, hR⟩ : ∃ R, R = (countsB lo hi && (eqS s z0 && (decide (n = 1) && okT (kid 0) (lv - 1)))) := ⟨_, rfl⟩
  rw [← hR]
  have HR := Lib.hid hR
  have HIH := Lib.hid ih
  obtain ⟨_, hcap, hm, hat, hkv⟩ := hL
  have HAT := Lib.hid hat
  have HKV := Lib.hid hkv
  have HQ1 := Lib.hid (show (lv : Int) - 1 = ((lv - 1 : Nat) : Int) by omega)
  unfold maxLen at hm
  clear hR ih hat hkv
  cases he : eqS s z0
  · have hq := neqS_z s he
    have HX := Lib.hid (show R = false by rw [HR.out, he]; simp)
    clear he
    go_enter Try.func44, Try.ntmps44
    go_wp2
    all_goals
      go_ret
      exact ⟨ret_bool HX.out.symm, alloc_below _ _⟩
  · have hq := neqS_z s he
    have HE := Lib.hid he
    clear he
    cases hcn : countsB lo hi
    · have HX := Lib.hid (show R = false by rw [HR.out, hcn]; rfl)
      have hcs : lo < 0 ∨ 20 < lo ∨ (lo = 0 ∧ hi ≠ -1 ∧ hi < 1) ∨ (lo = 1 ∧ hi ≠ -1 ∧ hi < 1) ∨ (1 < lo ∧ lo ≤ 20 ∧ hi ≠ -1 ∧ hi < lo) ∨ (lo = 0 ∧ 20 < hi) ∨ (lo = 1 ∧ 20 < hi) ∨ (1 < lo ∧ lo ≤ 20 ∧ 20 < hi) := by
        simp only [countsB, Bool.and_eq_false_iff, Bool.or_eq_false_iff, decide_eq_false_iff_not] at hcn
        omega
      clear hcn
      rcases hcs with h | h | ⟨rfl, h1, h2⟩ | ⟨rfl, h1, h2⟩ | ⟨h0, h3, h1, h2⟩ | ⟨rfl, h1⟩ | ⟨rfl, h1⟩ | ⟨h0, h3, h1⟩
      · have q0 : (lo == 0) = false := by simp; omega
        have q1 : ¬ 0 ≤ lo := by omega
        go_enter Try.func44, Try.ntmps44
        go_wp2
        all_goals
          go_ret
          exact ⟨ret_bool HX.out.symm, alloc_below _ _⟩
      · have q0 : (lo == 0) = false := by simp; omega
        have q1 : 0 ≤ lo := by omega
        have q2 : ¬ lo ≤ 20 := by omega
        go_enter Try.func44, Try.ntmps44
        go_wp2
        all_goals
          go_ret
          exact ⟨ret_bool HX.out.symm, alloc_below _ _⟩
      · have q0 : (hi == -1) = false := by simp [h1]
        have q1 : ¬ 1 ≤ hi := by omega
        go_enter Try.func44, Try.ntmps44
        go_wp2
        all_goals
          go_ret
          exact ⟨ret_bool HX.out.symm, alloc_below _ _⟩
      · have q0 : (hi == -1) = false := by simp [h1]
        have q1 : ¬ 1 ≤ hi := by omega
        go_enter Try.func44, Try.ntmps44
        go_wp2
        all_goals
          go_ret
          exact ⟨ret_bool HX.out.symm, alloc_below _ _⟩
      · have q0 : (hi == -1) = false := by simp [h1]
        have q1 : ¬ lo ≤ hi := by omega
        have q2 : (lo == 0) = false := by simp; omega
        have q3 : 0 ≤ lo := by omega
        go_enter Try.func44, Try.ntmps44
        go_wp2
        all_goals
          go_ret
          exact ⟨ret_bool HX.out.symm, alloc_below _ _⟩
      · have q0 : (hi == -1) = false := by simp; omega
        have q1 : 1 ≤ hi := by omega
        have q2 : ¬ hi ≤ 20 := by omega
        have q3 : (hi == 0) = false := by simp; omega
        go_enter Try.func44, Try.ntmps44
        go_wp2
        all_goals
          go_ret
          exact ⟨ret_bool HX.out.symm, alloc_below _ _⟩
      · have q0 : (hi == -1) = false := by simp; omega
        have q1 : 1 ≤ hi := by omega
        have q2 : ¬ hi ≤ 20 := by omega
        go_enter Try.func44, Try.ntmps44
        go_wp2
        all_goals
          go_ret
          exact ⟨ret_bool HX.out.symm, alloc_below _ _⟩
      · have q0 : (hi == -1) = false := by simp; omega
        have q1 : lo ≤ hi := by omega
        have q2 : ¬ hi ≤ 20 := by omega
        have q3 : (lo == 0) = false := by simp; omega
        have q4 : 0 ≤ lo := by omega
        go_enter Try.func44, Try.ntmps44
        go_wp2
        all_goals
          go_ret
          exact ⟨ret_bool HX.out.symm, alloc_below _ _⟩
    · have HX := Lib.hid (show R = (decide (n = 1) && okT (kid 0) (lv - 1)) by rw [HR.out, hcn, HE.out]; rfl)
      have hcs : (lo = 0 ∧ hi = -1) ∨ (lo = 1 ∧ hi = -1) ∨ (1 < lo ∧ lo ≤ 20 ∧ hi = -1) ∨ (lo = 0 ∧ 1 ≤ hi ∧ hi ≤ 20) ∨ (lo = 1 ∧ 1 ≤ hi ∧ hi ≤ 20) ∨ (1 < lo ∧ lo ≤ 20 ∧ lo ≤ hi ∧ hi ≤ 20) := by
        simp only [countsB, Bool.and_eq_true, Bool.or_eq_true, decide_eq_true_eq] at hcn
        omega
      clear hcn
      by_cases hn : n = 1
      · subst hn
        have HX2 := Lib.hid (show R = okT (kid 0) (lv - 1) by rw [HX.out]; simp)
        obtain ⟨g, off, rfl, hg, hc⟩ := HAT.out (by omega)
        obtain ⟨c0, c1, c2, c3, c4, c5, c6, c7⟩ := (hc 0 (by omega)).zero
        have hC : ∀ o, At8 (w.alloc o) g off (kid 0) := fun o => ((hc 0 (by omega)).below hg (alloc_below w o)).zero
        clear c0 c1 c2 c3 c4 c5 c6 c7 hc
        have f0 : ∀ o, (w.alloc o).cell? ⟨g, off, none⟩ = some (.int .i64 (kid 0).k) := fun o => (hC o).1
        have f1 : ∀ o, (w.alloc o).cell? ⟨g, off + 1, none⟩ = some (.int .u64 ((kid 0).s 0)) := fun o => (hC o).2.1
        have f2 : ∀ o, (w.alloc o).cell? ⟨g, off + 2, none⟩ = some (.int .u64 ((kid 0).s 1)) := fun o => (hC o).2.2.1
        have f3 : ∀ o, (w.alloc o).cell? ⟨g, off + 3, none⟩ = some (.int .u64 ((kid 0).s 2)) := fun o => (hC o).2.2.2.1
        have f4 : ∀ o, (w.alloc o).cell? ⟨g, off + 4, none⟩ = some (.int .u64 ((kid 0).s 3)) := fun o => (hC o).2.2.2.2.1
        have f5 : ∀ o, (w.alloc o).cell? ⟨g, off + 5, none⟩ = some (.int .i64 (kid 0).lo) := fun o => (hC o).2.2.2.2.2.1
        have f6 : ∀ o, (w.alloc o).cell? ⟨g, off + 6, none⟩ = some (.int .i64 (kid 0).hi) := fun o => (hC o).2.2.2.2.2.2.1
        have f7 : ∀ o, (w.alloc o).cell? ⟨g, off + 7, none⟩ = some (.slice (kid 0).a (kid 0).n (kid 0).cap) := fun o => (hC o).2.2.2.2.2.2.2
        clear hC
        rcases hcs with ⟨rfl, rfl⟩ | ⟨rfl, rfl⟩ | ⟨h1, h2, rfl⟩ | ⟨rfl, h1, h2⟩ | ⟨rfl, h1, h2⟩ | ⟨h1, h2, h3, h4⟩
        all_goals
          try have q0 : (hi == -1) = false := by simp; omega
          try have q1 : (hi == 0) = false := by simp; omega
          try have q2 : (lo == 0) = false := by simp; omega
          try have q3 : 0 ≤ lo := by omega
          go_enter Try.func44, Try.ntmps44
          go_wp2_with fail
          rw [HQ1.out]
          refine (HIH.out 0 (by omega) _ ((HKV.out 0 (by omega)).now (alloc_below _ _))).mono ?_
          rintro e w2 ⟨rfl, hb2⟩
          rw [← HX2.out]
          have HB2 := Lib.hid (box_below hb2)
          clear hb2
          go_wp2
          go_ret
          exact ⟨rfl, HB2.out⟩
      · have hn1 : ((n : Int) == 1) = false := by simp; omega
        have HX2 := Lib.hid (show R = false by rw [HX.out]; simp [hn])
        rcases hcs with ⟨rfl, rfl⟩ | ⟨rfl, rfl⟩ | ⟨h1, h2, rfl⟩ | ⟨rfl, h1, h2⟩ | ⟨rfl, h1, h2⟩ | ⟨h1, h2, h3, h4⟩
        all_goals
          try have q0 : (hi == -1) = false := by simp; omega
          try have q1 : (hi == 0) = false := by simp; omega
          try have q2 : (lo == 0) = false := by simp; omega
          try have q3 : 0 ≤ lo := by omega
          go_enter Try.func44, Try.ntmps44
          go_wp2
          go_ret
          exact ⟨ret_bool HX2.out.symm, alloc_below _ _⟩
set_option maxRecDepth 100000 in
theorem refright_any : ∀ (t : Tr) (lv : Nat) (w : World), lv ≤ 20 → Lives w w.heap.size t → Calls Try.prog 44 #[t.val, .int .i64 lv] w fun e w' => e = .returned (.bool (okT t lv)) ∧ Below w.heap.size w w' := by
  intro t
  induction t with
  | nul => intro lv w h20 hL; exact hL.elim
  | node k s lo hi a n cap kid ih =>
  intro lv w h20 hL
  by_cases h0 : lv = 0
  · subst h0
    refine (right_zero k s lo hi _ w).mono ?_
    rintro e w' ⟨rfl, hb⟩
    exact ⟨by simp [okT], hb⟩
  · have hlv : 0 < lv := by omega
    have ih' : ∀ i, i < n → ∀ w, Lives w w.heap.size (kid i) → Calls Try.prog 44 #[(kid i).val, .int .i64 ((lv - 1 : Nat) : Int)] w fun e w' => e = .returned (.bool (okT (kid i) (lv - 1))) ∧ Below w.heap.size w w' := fun i _ w h => ih i (lv - 1) w (by omega) h
    by_cases h1 : k = 1
    · subst h1
      refine (right_empty s lo hi a n cap lv hlv w).mono ?_
      rintro e w' ⟨rfl, hb⟩
      refine ⟨ret_bool ?_, hb⟩
      cases hf : (plainB s lo hi && decide (n = 0))
      · rw [ok_fits]; exact hf
      · rw [ok_leaf (by exact hf) (by simp only [Bool.and_eq_true, decide_eq_true_eq] at hf; exact hf.2) hlv]
    · by_cases h2 : k = 2
      · subst h2
        refine (right_bytes s lo hi a n cap lv hlv w).mono ?_
        rintro e w' ⟨rfl, hb⟩
        refine ⟨ret_bool ?_, hb⟩
        cases hf : (!eqS s z0 && (plainB z0 lo hi && decide (n = 0)))
        · rw [ok_fits]; exact hf
        · rw [ok_leaf (by exact hf) (by simp only [Bool.and_eq_true, decide_eq_true_eq] at hf; exact hf.2.2) hlv]
      · by_cases h3 : k = 3
        · subst h3
          refine (right_3 s lo hi a n cap kid lv hlv h20 w hL ih').mono ?_
          rintro e w' ⟨rfl, hb⟩
          refine ⟨ret_bool ?_, hb⟩
          rw [← anyTo_all]
          simp only [okT, hlv, decide_true, Bool.true_and]
          show _ = ((plainB s lo hi && (decide (2 ≤ n) && !anyTo (fun i => decide ((kid i).k = 3)) n)) && _)
          simp only [Bool.and_assoc]
        · by_cases h4 : k = 4
          · subst h4
            refine (right_4 s lo hi a n cap kid lv hlv h20 w hL ih').mono ?_
            rintro e w' ⟨rfl, hb⟩
            refine ⟨ret_bool ?_, hb⟩
            rw [← anyTo_all]
            simp only [okT, hlv, decide_true, Bool.true_and]
            show _ = ((plainB s lo hi && (decide (2 ≤ n) && !anyTo (fun i => decide ((kid i).k = 4)) n)) && _)
            simp only [Bool.and_assoc]
          · by_cases h5 : k = 5
            · subst h5
              refine (right_rep s lo hi a n cap kid lv hlv h20 w hL ih').mono ?_
              rintro e w' ⟨rfl, hb⟩
              refine ⟨ret_bool ?_, hb⟩
              simp only [okT, hlv, decide_true, Bool.true_and]
              show _ = ((countsB lo hi && (plainB s 0 0 && decide (n = 1))) && allTo (fun i => okT (kid i) (lv - 1)) n)
              by_cases hn : n = 1
              · subst hn; simp [allTo, plainB, Bool.and_assoc]
              · simp [hn]
            · refine (right_else k h1 h2 h3 h4 h5 s lo hi _ lv hlv w).mono ?_
              rintro e w' ⟨rfl, hb⟩
              refine ⟨ret_bool ?_, hb⟩
              rw [ok_fits]
              simp [fitsB, Tr.k, h1, h2, h3, h4, h5]
set_option maxRecDepth 100000 in
theorem nodes_ge {t : Tr} : (0 ≤ nodesI t 1000) ↔ cnt t ≤ 1000 := by
  unfold nodesI
  split
  · rename_i h; exact ⟨fun _ => h, fun _ => by omega⟩
  · rename_i h; exact ⟨fun q => by omega, fun q => absurd q h⟩
set_option maxRecDepth 100000 in
set_option maxHeartbeats 2000000 in
theorem refRight_any (t : Tr) (w : World) (hL : Lives w w.heap.size t) : Calls Try.prog 29 #[t.val] w fun e w' => e = .returned (.bool (rightB t)) ∧ Below w.heap.size w w' := by
  have HL := Lib.hid hL
  clear hL
  show Calls Try.prog 29 #[nodeV t.k t.s t.lo t.hi (.slice t.a t.n t.cap)] w _
  obtain ⟨r, hr⟩ : ∃ r, r = okT t 20 := ⟨_, rfl⟩
  have HR := Lib.hid hr
  obtain ⟨R, hRR⟩ : ∃ R, R = rightB t := ⟨_, rfl⟩
  rw [← hRR]
  have HRR := Lib.hid hRR
  clear hr hRR
  go_enter Try.func29, Try.ntmps29
  go_wp2_with fail
  refine (refright_any t 20 _ (by omega) (HL.out.now (alloc_below _ _))).mono ?_
  rintro e w1 ⟨rfl, hb1⟩
  rw [← HR.out]
  have HB1 := Lib.hid (box_below hb1)
  have HK1 := Lib.hid (box_kept hb1)
  obtain ⟨c0, c1, c2, c3, c4, c5, c6, c7⟩ := cell8 HK1.out
  clear hb1
  cases r
  · have HX := Lib.hid (show R = false by rw [HRR.out]; unfold rightB; rw [← HR.out]; rfl)
    go_wp2
    go_ret
    exact ⟨ret_bool HX.out.symm, HB1.out⟩
  · obtain ⟨z, hz⟩ : ∃ z : Int, z = ((min 1000000 (sz t) : Nat) : Int) := ⟨_, rfl⟩
    have HZ := Lib.hid hz
    clear hz
    go_wp2_with fail
    refine (refsize_any t w1 (fit_of_ok HR.out.symm) (HL.out.now HB1.out)).mono ?_
    rintro e w2 ⟨rfl, hb2⟩
    rw [← HZ.out]
    have HB2 := Lib.hid (HB1.out.trans (hb2.mono HB1.out.size))
    have HK2 := Lib.hid ((hb2.block _ ((Array.getElem?_eq_some_iff.1 HK1.out).1)).trans HK1.out)
    clear hb2 c0 c1 c2 c3 c4 c5 c6 c7
    obtain ⟨c0, c1, c2, c3, c4, c5, c6, c7⟩ := cell8 HK2.out
    by_cases hz : z ≤ 200
    · obtain ⟨q, hq⟩ : ∃ q : Int, q = nodesI t 1000 := ⟨_, rfl⟩
      have HQ := Lib.hid hq
      clear hq
      go_wp2_with fail
      refine (nodes_any t 1000 w2 (by omega) (HL.out.now HB2.out)).mono ?_
      rintro e w3 ⟨rfl, hb3⟩
      rw [← HQ.out]
      have HB3 := Lib.hid (HB2.out.trans (hb3.mono HB2.out.size))
      have HX := Lib.hid (show R = decide (0 ≤ q) by
        rw [HRR.out]; unfold rightB
        rw [← HR.out, decide_eq_true (show sz t ≤ 200 by have := HZ.out; omega), Bool.true_and, Bool.and_true, HQ.out]
        exact decide_eq_decide.2 nodes_ge.symm)
      clear hb3
      by_cases hq0 : 0 ≤ q
      · go_wp2
        go_ret
        exact ⟨ret_bool (by rw [HX.out, decide_eq_true hq0]), HB3.out⟩
      · go_wp2
        go_ret
        exact ⟨ret_bool (by rw [HX.out, decide_eq_false (by omega)]), HB3.out⟩
    · have HX := Lib.hid (show R = false by
        rw [HRR.out]; unfold rightB
        rw [decide_eq_false (show ¬ sz t ≤ 200 by have := HZ.out; omega)]; simp)
      go_wp2
      go_ret
      exact ⟨ret_bool HX.out.symm, HB2.out⟩
end Go.Proofs.Ytbahadgcmaabcaa
