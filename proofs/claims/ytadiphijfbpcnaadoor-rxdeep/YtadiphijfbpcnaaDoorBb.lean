/- Contract of the document's own Same of layer 3. -/
import Derived.Test.YtadiphijfbpcnaaDoorM
namespace Go.Proofs.YtadiphijfbpcnaaDoor
open Go.RowKit
theorem neqS_any (s s' : Nat → Int) {b : Bool} (h : eqS s s' = b) (w : World) : Sem.run Tryd.prog (binOp .neq 24 (SV s) (SV s')) w = .ok (.bool (!b)) w := by
  have h := eqS_any s s' h w
  rw [run_eql_struct] at h
  rw [run_neq_struct]
  generalize Sem.run Tryd.prog (Op.equalIn 10000 24 (SV s) (SV s')) w = r at h
  cases r with
  | ok b w1 => simp at h ⊢; exact ⟨by rw [h.1], h.2⟩
  | halt x w1 => simp [Result.andThen] at h
set_option maxRecDepth 100000 in
set_option maxHeartbeats 4000000 in
theorem refsame_any : ∀ (t u : Tr) (w : World), Lives w w.heap.size t → Lives w w.heap.size u → Calls Tryd.prog 22 #[t.val, u.val] w fun e w' => e = .returned (.bool (sameT t u)) ∧ Below w.heap.size w w' := by
  intro t
  induction t with
  | nul => intro u w hL hL'; exact hL.elim
  | node k s lo hi a n cap kid ih =>
  intro u w hL hL'
  cases u with
  | nul => exact hL'.elim
  | node k' s' lo' hi' a' n' cap' kid' =>
  show Calls Tryd.prog 22 #[nodeV k s lo hi (.slice a n cap), nodeV k' s' lo' hi' (.slice a' n' cap')] w _
  obtain ⟨_, hcap, hm, hat, hlv⟩ := hL
  obtain ⟨_, hcap', hm', hat', hlv'⟩ := hL'
  have HAT := Lib.hid hat
  have HLV := Lib.hid hlv
  have HAT' := Lib.hid hat'
  have HLV' := Lib.hid hlv'
  unfold maxLen at hm hm'
  obtain ⟨R, hR⟩ : ∃ R, R = sameT (.node k s lo hi a n cap kid) (.node k' s' lo' hi' a' n' cap' kid') := ⟨_, rfl⟩
  rw [← hR]
  have HR := Lib.hid (show R = ((decide (k = k') && (eqS s s' && (decide (lo = lo') && (decide (hi = hi') && decide (n = n'))))) && allTo (fun i => sameT (kid i) (kid' i)) n) from hR)
  clear hat hlv hat' hlv' hR
  by_cases hk : k = k'
  · subst hk
    cases he : eqS s s'
    · have hq := neqS_any s s' he
      have HX := Lib.hid (show R = false by rw [HR.out, he]; simp)
      clear he
      go_enter Tryd.func22, Tryd.ntmps22
      go_wp2
      go_ret
      exact ⟨ret_bool HX.out.symm, alloc2_below _ _ _⟩
    · have hq := neqS_any s s' he
      have HE := Lib.hid he
      clear he
      by_cases hl : lo = lo'
      · subst hl
        by_cases hh : hi = hi'
        · subst hh
          by_cases hn : n = n'
          · subst hn
            have HX := Lib.hid (show R = allTo (fun i => sameT (kid i) (kid' i)) n by rw [HR.out, HE.out]; simp)
            go_enter Tryd.func22, Tryd.ntmps22
            go_wp2
            go_loopw [5] (fun c wr => ∃ j : Nat, j ≤ n ∧ c = .int .i64 j ∧ Hid (allTo (fun i => sameT (kid i) (kid' i)) j = true) ∧ Hid (wr.heap[w.heap.size]? = some (.cells (row8 k s lo hi (.slice a n cap)) 27 (0, 0))) ∧ Hid (wr.heap[w.heap.size + 1]? = some (.cells (row8 k s' lo hi (.slice a' n cap')) 27 (0, 0))) ∧ Below w.heap.size w wr) (fun c _ => n - (intOf c).toNat)
            case atStart => exact ⟨0, by omega, rfl, Lib.hid rfl, Lib.hid (heap_alloc2_old _ _ _), Lib.hid (heap_alloc2_new _ _ _), alloc2_below _ _ _⟩
            case round =>
              obtain ⟨j, hj, rfl, HA, HK, HK', hb⟩ := hrel
              have x7 := (cell8 HK.out).2.2.2.2.2.2.2
              have y7 := (cell8 HK'.out).2.2.2.2.2.2.2
              by_cases hlt : j < n
              · obtain ⟨g, off, rfl, hg, hc⟩ := HAT.out (by omega)
                obtain ⟨g', off', rfl, hg', hc'⟩ := HAT'.out (by omega)
                obtain ⟨c0, c1, c2, c3, c4, c5, c6, c7⟩ := (hc j hlt).below hg hb
                obtain ⟨e0, e1, e2, e3, e4, e5, e6, e7⟩ := (hc' j hlt).below hg' hb
                have i1 : (j : Int) < (n : Int) := by omega
                clear hc hc'
                go_wp2_with fail
                go_still_tail 10, (by kernel_rfl)
                change wpList _ _ _ _ _ wr.drew
                have hbd : Below w.heap.size w wr.drew := hb.drew
                have HKd : Hid (wr.drew.heap[w.heap.size]? = some (.cells (row8 k s lo hi (.slice (some ⟨g, off, none⟩) n cap)) 27 (0, 0))) := HK.out
                have HKd' : Hid (wr.drew.heap[w.heap.size + 1]? = some (.cells (row8 k s' lo hi (.slice (some ⟨g', off', none⟩) n cap')) 27 (0, 0))) := HK'.out
                generalize wr.drew = wd at *
                clear c0 c1 c2 c3 c4 c5 c6 c7 e0 e1 e2 e3 e4 e5 e6 e7 x7 y7 hb HK HK'
                go_wp2_with fail
                refine (ih j (kid' j) wd ((HLV.out j hlt).now hbd) ((HLV'.out j hlt).now hbd)).mono ?_
                rintro e w2 ⟨rfl, hb2⟩
                have HB2 := Lib.hid (hbd.trans (hb2.mono hbd.size))
                have HK2 := Lib.hid ((hb2.block _ ((Array.getElem?_eq_some_iff.1 HKd.out).1)).trans HKd.out)
                have HK2' := Lib.hid ((hb2.block _ ((Array.getElem?_eq_some_iff.1 HKd'.out).1)).trans HKd'.out)
                clear hb2 hbd HKd HKd'
                cases hN : sameT (kid j) (kid' j)
                · have HA1 := Lib.hid (show R = false by rw [HX.out]; exact allTo_not (p := fun i => sameT (kid i) (kid' i)) hlt hN)
                  clear hN
                  go_wp2
                  go_ret
                  exact ⟨ret_bool HA1.out.symm, HB2.out⟩
                · have HA1 := Lib.hid (show allTo (fun i => sameT (kid i) (kid' i)) (j + 1) = true by rw [allTo, HA.out, hN]; rfl)
                  clear hN
                  go_wp2
                  go_roundw
                  case rel => exact ⟨j + 1, by omega, by go_num, HA1, HK2, HK2', HB2.out⟩
                  case measure => simp [intOf]; omega
              · obtain rfl : n = j := by omega
                go_wp2
                go_ret
                exact ⟨ret_bool (by rw [HX.out, HA.out]), hb⟩
          · have hn1 : ((n : Int) == (n' : Int)) = false := by simp; omega
            have hn2 : (n == n') = false := by simp [hn]
            have HX := Lib.hid (show R = false by rw [HR.out]; simp [hn])
            go_enter Tryd.func22, Tryd.ntmps22
            go_wp2
            go_ret
            exact ⟨ret_bool HX.out.symm, alloc2_below _ _ _⟩
        · have hh1 : (hi == hi') = false := by simp [hh]
          have HX := Lib.hid (show R = false by rw [HR.out]; simp [hh])
          go_enter Tryd.func22, Tryd.ntmps22
          go_wp2
          go_ret
          exact ⟨ret_bool HX.out.symm, alloc2_below _ _ _⟩
      · have hh1 : (lo == lo') = false := by simp [hl]
        have HX := Lib.hid (show R = false by rw [HR.out]; simp [hl])
        go_enter Tryd.func22, Tryd.ntmps22
        go_wp2
        go_ret
        exact ⟨ret_bool HX.out.symm, alloc2_below _ _ _⟩
  · have hk1 : (k == k') = false := by simp [hk]
    have HX := Lib.hid (show R = false by rw [HR.out]; simp [hk])
    go_enter Tryd.func22, Tryd.ntmps22
    go_wp2
    go_ret
    exact ⟨ret_bool HX.out.symm, alloc2_below _ _ _⟩
end Go.Proofs.YtadiphijfbpcnaaDoor
