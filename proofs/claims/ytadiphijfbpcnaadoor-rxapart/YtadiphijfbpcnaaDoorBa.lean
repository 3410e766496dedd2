/- Contracts of the document's own Nodes and Null of layer 3. -/
import Derived.Test.YtadiphijfbpcnaaDoorM
namespace Go.Proofs.YtadiphijfbpcnaaDoor
open Go.RowKit
/-- What is left of p patterns. -/
def nodesI (t : Tr) (p : Nat) : Int := if cnt t ≤ p then ((p - cnt t : Nat) : Int) else -1
theorem at8_now {w wr : World} {g o : Nat} {t : Tr} (h : At8 w g o t) (hg : g < w.heap.size) (hb : Below w.heap.size w wr) : At8 wr g o t := h.below hg hb
set_option maxRecDepth 100000 in
set_option maxHeartbeats 2000000 in
theorem nodes_any : ∀ (t : Tr) (p : Nat) (w : World), p ≤ 2000 → Lives w w.heap.size t → Calls Tryd.prog 19 #[t.val, .int .i64 p] w fun e w' => e = .returned (.int .i64 (nodesI t p)) ∧ Below w.heap.size w w' := by
  intro t
  induction t with
  | nul => intro p w hp hL; exact hL.elim
  | node k s lo hi a n cap kid ih =>
  intro p w hp hL
  show Calls Tryd.prog 19 #[nodeV k s lo hi (.slice a n cap), .int .i64 p] w _
  obtain ⟨_, hcap, hm, hat, hlv⟩ := hL
  have HAT := Lib.hid hat
  have HLV := Lib.hid hlv
  unfold maxLen at hm
  clear hat hlv
  obtain ⟨R, hR⟩ : ∃ R, R = nodesI (.node k s lo hi a n cap kid) p := ⟨_, rfl⟩
  rw [← hR]
  have HR := Lib.hid hR
  have HM := Lib.hid (fun (i : Nat) (h : i ≤ n) => sumTo_mono (fun i => cnt (kid i)) h)
  have HCN := Lib.hid (show cnt (.node k s lo hi a n cap kid) = 1 + sumTo (fun i => cnt (kid i)) n from rfl)
  clear hR
  go_enter Tryd.func19, Tryd.ntmps19
  go_wp2
  go_loopw [1, 5] (fun q c wr => ∃ j : Nat, j ≤ n ∧ c = .int .i64 j ∧ Hid ((sumTo (fun i => cnt (kid i)) j + 1 ≤ p ∧ q = .int .i64 ((p : Int) - 1 - (sumTo (fun i => cnt (kid i)) j : Int))) ∨ (p < 1 + sumTo (fun i => cnt (kid i)) n ∧ q = .int .i64 (-1))) ∧ Hid (wr.heap[w.heap.size]? = some (.cells (row8 k s lo hi (.slice a n cap)) 27 (0, 0))) ∧ Below w.heap.size w wr) (fun _ c _ => n - (intOf c).toNat)
  case atStart =>
    refine ⟨0, by omega, rfl, ?_, Lib.hid (heap_alloc_new _ _), alloc_below _ _⟩
    by_cases h : 1 ≤ p
    · exact Or.inl ⟨by simp only [sumTo]; omega, by simp [sumTo]⟩
    · exact Or.inr ⟨by omega, by have : p = 0 := (by omega); subst this; rfl⟩
  case round =>
    obtain ⟨j, hj, rfl, HA, HK, hb⟩ := hrel
    obtain ⟨x0, x1, x2, x3, x4, x5, x6, x7⟩ := cell8 HK.out
    clear x0 x1 x2 x3 x4 x5 x6
    rcases HA.out with ⟨hs, rfl⟩ | ⟨hs, rfl⟩
    · obtain ⟨S, hS⟩ : ∃ S, S = sumTo (fun i => cnt (kid i)) j := ⟨_, rfl⟩
      rw [← hS] at hs ⊢
      have HS := Lib.hid hS
      clear hS
      have hge : (0 : Int) ≤ (p : Int) - 1 - (S : Int) := by omega
      by_cases hlt : j < n
      · obtain ⟨g, off, rfl, hg, hc⟩ := HAT.out (by omega)
        obtain ⟨c0, c1, c2, c3, c4, c5, c6, c7⟩ := at8_now (hc j hlt) hg hb
        have HI := Lib.hid (ih j (p - 1 - S))
        have HQ := Lib.hid (show (p : Int) - 1 - (S : Int) = ((p - 1 - S : Nat) : Int) by omega)
        clear hc
        go_wp2_with fail
        rw [HQ.out]
        refine (HI.out _ (by omega) ((HLV.out j hlt).now hb)).mono ?_
        rintro e w2 ⟨rfl, hb2⟩
        have HB2 := Lib.hid (hb.trans (hb2.mono hb.size))
        have HK2 := Lib.hid ((hb2.block _ ((Array.getElem?_eq_some_iff.1 HK.out).1)).trans HK.out)
        clear hb2 hb c0 c1 c2 c3 c4 c5 c6 c7 x7
        have HST := Lib.hid (show (sumTo (fun i => cnt (kid i)) (j + 1) + 1 ≤ p ∧ nodesI (kid j) (p - 1 - S) = (p : Int) - 1 - (sumTo (fun i => cnt (kid i)) (j + 1) : Int)) ∨ (p < 1 + sumTo (fun i => cnt (kid i)) n ∧ nodesI (kid j) (p - 1 - S) = -1) by
          have hm1 := HM.out (j + 1) (by omega)
          simp only [sumTo] at hm1 ⊢
          rw [← HS.out] at hm1 ⊢
          unfold nodesI
          split
          · left; omega
          · right; omega)
        obtain ⟨y, hy⟩ : ∃ y, y = nodesI (kid j) (p - 1 - S) := ⟨_, rfl⟩
        rw [← hy] at HST ⊢
        clear hy
        go_wp2
        go_roundw
        case rel =>
          refine ⟨j + 1, by omega, by go_num, ?_, HK2, HB2.out⟩
          rcases HST.out with ⟨h1, h2⟩ | ⟨h1, h2⟩
          · exact Or.inl ⟨h1, by rw [h2]⟩
          · exact Or.inr ⟨h1, by rw [h2]⟩
        case measure => simp [intOf]; omega
      · obtain rfl : n = j := by omega
        have HX := Lib.hid (show R = (p : Int) - 1 - (S : Int) by rw [HR.out]; unfold nodesI; rw [HCN.out, ← HS.out, if_pos (by omega)]; omega)
        go_wp2
        go_ret
        exact ⟨ret_int HX.out.symm, hb⟩
    · have HX := Lib.hid (show R = -1 by rw [HR.out]; unfold nodesI; rw [HCN.out, if_neg (by omega)])
      by_cases hlt : j < n
      · go_wp2
        go_ret
        exact ⟨ret_int HX.out.symm, hb⟩
      · obtain rfl : n = j := by omega
        go_wp2
        go_ret
        exact ⟨ret_int HX.out.symm, hb⟩
set_option maxRecDepth 100000 in
set_option maxHeartbeats 4000000 in
theorem refnull_any : ∀ (t : Tr) (w : World), fitT t = true → Lives w w.heap.size t → Calls Tryd.prog 24 #[t.val] w fun e w' => e = .returned (.bool (nullT t)) ∧ Below w.heap.size w w' := by
  intro t
  induction t with
  | nul => intro w hf hL; exact hL.elim
  | node k s lo hi a n cap kid ih =>
  intro w hf hL
  show Calls Tryd.prog 24 #[nodeV k s lo hi (.slice a n cap)] w _
  have HFC := Lib.hid (fits_cases (fitT_fits hf))
  have HFK := Lib.hid (fun (i : Nat) (h : i < n) => fitT_kid (i := i) hf h)
  obtain ⟨_, hcap, hm, hat, hlv⟩ := hL
  have HAT := Lib.hid hat
  have HLV := Lib.hid hlv
  unfold maxLen at hm
  obtain ⟨R, hR⟩ : ∃ R, R = nullT (.node k s lo hi a n cap kid) := ⟨_, rfl⟩
  rw [← hR]
  have HR := Lib.hid hR
  clear hat hlv hf hR
  go_enter Tryd.func24, Tryd.ntmps24
  go_wp2
  go_loopw [3, 4, 5] (fun va vo c wr => ∃ j : Nat, j ≤ n ∧ c = .int .i64 j ∧ Hid (va = .bool (allTo (fun i => nullT (kid i)) j) ∧ vo = .bool (anyTo (fun i => nullT (kid i)) j)) ∧ Hid (wr.heap[w.heap.size]? = some (.cells (row8 k s lo hi (.slice a n cap)) 27 (0, 0))) ∧ Below w.heap.size w wr) (fun _ _ c _ => n - (intOf c).toNat)
  case atStart => exact ⟨0, by omega, rfl, Lib.hid ⟨rfl, rfl⟩, Lib.hid (heap_alloc_new _ _), alloc_below _ _⟩
  case round =>
    obtain ⟨j, hj, rfl, HA, HK, hb⟩ := hrel
    obtain ⟨x0, x1, x2, x3, x4, x5, x6, x7⟩ := cell8 HK.out
    obtain ⟨rfl, rfl⟩ := HA.out
    by_cases hlt : j < n
    · obtain ⟨g, off, rfl, hg, hc⟩ := HAT.out (by omega)
      obtain ⟨c0, c1, c2, c3, c4, c5, c6, c7⟩ := at8_now (hc j hlt) hg hb
      have HSA := Lib.hid (show allTo (fun i => nullT (kid i)) (j + 1) = (allTo (fun i => nullT (kid i)) j && nullT (kid j)) from rfl)
      have HSO := Lib.hid (show anyTo (fun i => nullT (kid i)) (j + 1) = (anyTo (fun i => nullT (kid i)) j || nullT (kid j)) from rfl)
      clear hc x0 x1 x2 x3 x4 x5 x6
      generalize allTo (fun i => nullT (kid i)) j = va at *
      generalize anyTo (fun i => nullT (kid i)) j = vo at *
      go_wp2_with fail
      refine (ih j _ (HFK.out j hlt) ((HLV.out j hlt).now hb)).mono ?_
      rintro e w2 ⟨rfl, hb2⟩
      have HB2 := Lib.hid (hb.trans (hb2.mono hb.size))
      have HK2 := Lib.hid ((hb2.block _ ((Array.getElem?_eq_some_iff.1 HK.out).1)).trans HK.out)
      clear hb2 hb c0 c1 c2 c3 c4 c5 c6 c7 x7
      generalize nullT (kid j) = nn at *
      cases va <;> cases vo <;> cases nn
      all_goals
        go_wp2
        go_roundw
        case rel => exact ⟨j + 1, by omega, by go_num, Lib.hid ⟨by rw [HSA.out]; rfl, by rw [HSO.out]; rfl⟩, HK2, HB2.out⟩
        case measure => simp [intOf]; omega
    · obtain rfl : n = j := by omega
      have HNT := Lib.hid (show R = if k = 1 then true else if k = 4 then anyTo (fun i => nullT (kid i)) n else if k = 5 then decide (lo = 0) || allTo (fun i => nullT (kid i)) n else if k = 3 then allTo (fun i => nullT (kid i)) n else false by rw [HR.out, nullT])
      generalize allTo (fun i => nullT (kid i)) n = va at *
      generalize anyTo (fun i => nullT (kid i)) n = vo at *
      have hfc := HFC.out
      simp only [Tr.k, Tr.n, Tr.lo, Tr.hi] at hfc
      have hcs : k = 1 ∨ k = 2 ∨ k = 3 ∨ k = 4 ∨ (k = 5 ∧ lo = 0) ∨ (k = 5 ∧ 0 < lo) := by omega
      clear hfc
      rcases hcs with rfl | rfl | rfl | rfl | ⟨rfl, rfl⟩ | ⟨rfl, hlo⟩
      · have HX := Lib.hid (show R = true by rw [HNT.out]; rfl)
        go_wp2
        go_ret
        exact ⟨ret_bool HX.out.symm, hb⟩
      · have HX := Lib.hid (show R = false by rw [HNT.out]; rfl)
        go_wp2
        go_ret
        exact ⟨ret_bool HX.out.symm, hb⟩
      · have HX := Lib.hid (show R = va by rw [HNT.out]; rfl)
        go_wp2
        go_ret
        exact ⟨ret_bool HX.out.symm, hb⟩
      · have HX := Lib.hid (show R = vo by rw [HNT.out]; rfl)
        go_wp2
        go_ret
        exact ⟨ret_bool HX.out.symm, hb⟩
      · have HX := Lib.hid (show R = true by rw [HNT.out]; rfl)
        go_wp2
        go_ret
        exact ⟨ret_bool HX.out.symm, hb⟩
      · have hlo' : ¬ lo ≤ 0 := by omega
        have HX := Lib.hid (show R = va by rw [HNT.out]; simp; omega)
        go_wp2
        go_ret
        exact ⟨ret_bool HX.out.symm, hb⟩
end Go.Proofs.YtadiphijfbpcnaaDoor
