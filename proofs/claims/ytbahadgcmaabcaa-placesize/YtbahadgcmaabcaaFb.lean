/- Contract of the law's own Null, for any pattern as in the table. Carried over from stage 3. -/
import Derived.Test.YtbahadgcmaabcaaBc
namespace Go.Proofs.Ytbahadgcmaabcaa
open Go.RowKit
set_option maxRecDepth 100000 in
set_option maxHeartbeats 4000000 in
theorem refnull_any : ∀ (t : Tr) (w : World), fitT t = true → Lives w w.heap.size t → Calls Try.prog 14 #[t.val] w fun e w' => e = .returned (.bool (nullT t)) ∧ Below w.heap.size w w' := by
  intro t
  induction t with
  | nul => intro w hf hL; exact hL.elim
  | node k s lo hi a n cap kid ih =>
  intro w hf hL
  show Calls Try.prog 14 #[nodeV k s lo hi (.slice a n cap)] w _
  have HFC := Lib.hid (fits_cases (fitT_fits hf))
  have HFK := Lib.hid (fun (i : Nat) (h : i < n) => fitT_kid (i := i) hf h)
  obtain ⟨_, hcap, hm, hat, hlv⟩ := hL
  have HAT := Lib.hid hat
  have HLV := Lib.hid hlv
  unfold maxLen at hm
  obtain ⟨R, hR⟩ : ∃ R, R = nullT (.node k s lo hi a n cap kid) := ⟨_, rfl⟩
  rw [← hR]
  have HR := Lib.hid hR
  clear hat hlv hf hR
  go_enter Try.func14, Try.ntmps14
  go_wp2
  go_loopw [3, 4, 5] (fun va vo c wr => ∃ j : Nat, j ≤ n ∧ c = .int .i64 j ∧ Hid (va = .bool (allTo (fun i => nullT (kid i)) j) ∧ vo = .bool (anyTo (fun i => nullT (kid i)) j)) ∧ Hid (wr.heap[w.heap.size]? = some (.cells (row8 k s lo hi (.slice a n cap)) 27 (0, 0))) ∧ Below w.heap.size w wr) (fun _ _ c _ => n - (intOf c).toNat)
  case atStart => exact ⟨0, by omega, rfl, Lib.hid ⟨rfl, rfl⟩, Lib.hid (heap_alloc_new _ _), alloc_below _ _⟩
  case round =>
    obtain ⟨j, hj, rfl, HA, HK, hb⟩ := hrel
    obtain ⟨x0, x1, x2, x3, x4, x5, x6, x7⟩ := cell8 HK.out
    obtain ⟨rfl, rfl⟩ := HA.out
    by_cases hlt : j < n
    · obtain ⟨g, off, rfl, hg, hc⟩ := HAT.out (by omega)
      obtain ⟨c0, c1, c2, c3, c4, c5, c6, c7⟩ := at8_now (hc j hlt) hg hb
      have HSA := Lib.hid (show allTo (fun i => nullT (kid i)) (j + 1) = (allTo (fun i => nullT (kid i)) j && nullT (kid j)) from rfl)
      have HSO := Lib.hid (show anyTo (fun i => nullT (kid i)) (j + 1) = (anyTo (fun i => nullT (kid i)) j || nullT (kid j)) from rfl)
      clear hc x0 x1 x2 x3 x4 x5 x6
      generalize allTo (fun i => nullT (kid i)) j = va at *
      generalize anyTo (fun i => nullT (kid i)) j = vo at *
      go_wp2_with fail
      refine (ih j _ (HFK.out j hlt) ((HLV.out j hlt).now hb)).mono ?_
      rintro e w2 ⟨rfl, hb2⟩
      have HB2 := Lib.hid (hb.trans (hb2.mono hb.size))
      have HK2 := Lib.hid ((hb2.block _ ((Array.getElem?_eq_some_iff.1 HK.out).1)).trans HK.out)
      clear hb2 hb c0 c1 c2 c3 c4 c5 c6 c7 x7
      generalize nullT (kid j) = nn at *
      cases va <;> cases vo <;> cases nn
      all_goals
        go_wp2
        go_roundw
        case rel => exact ⟨j + 1, by omega, by go_num, Lib.hid ⟨by rw [HSA.out]; rfl, by rw [HSO.out]; rfl⟩, HK2, HB2.out⟩
        case measure => simp [intOf]; omega
    · obtain rfl : n = j := by omega
      have HNT := Lib.hid (show R = if k = 1 then true else if k = 4 then anyTo (fun i => nullT (kid i)) n else if k = 5 then decide (lo = 0) || allTo (fun i => nullT (kid i)) n else if k = 3 then allTo (fun i => nullT (kid i)) n else false by rw [HR.out, nullT])
      generalize allTo (fun i => nullT (kid i)) n = va at *
      generalize anyTo (fun i => nullT (kid i)) n = vo at *
      have hfc := HFC.out
      simp only [Tr.k, Tr.n, Tr.lo, Tr.hi] at hfc
      have hcs : k = 1 ∨ k = 2 ∨ k = 3 ∨ k = 4 ∨ (k = 5 ∧ lo = 0) ∨ (k = 5 ∧ 0 < lo) := by omega
      clear hfc
      rcases hcs with rfl | rfl | rfl | rfl | ⟨rfl, rfl⟩ | ⟨rfl, hlo⟩
      · have HX := Lib.hid (show R = true by rw [HNT.out]; rfl)
        go_wp2
        go_ret
        exact ⟨ret_bool HX.out.symm, hb⟩
      · have HX := Lib.hid (show R = false by rw [HNT.out]; rfl)
        go_wp2
        go_ret
        exact ⟨ret_bool HX.out.symm, hb⟩
      · have HX := Lib.hid (show R = va by rw [HNT.out]; rfl)
        go_wp2
        go_ret
        exact ⟨ret_bool HX.out.symm, hb⟩
      · have HX := Lib.hid (show R = vo by rw [HNT.out]; rfl)
        go_wp2
        go_ret
        exact ⟨ret_bool HX.out.symm, hb⟩
      · have HX := Lib.hid (show R = true by rw [HNT.out]; rfl)
        go_wp2
        go_ret
        exact ⟨ret_bool HX.out.symm, hb⟩
      · have hlo' : ¬ lo ≤ 0 := by omega
        have HX := Lib.hid (show R = va by rw [HNT.out]; simp; omega)
        go_wp2
        go_ret
        exact ⟨ret_bool HX.out.symm, hb⟩
end Go.Proofs.Ytbahadgcmaabcaa
