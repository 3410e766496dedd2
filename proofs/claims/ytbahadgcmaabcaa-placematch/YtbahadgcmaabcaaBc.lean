/- Contracts of the document's own Nodes and Null of layer 3. -/
import Derived.Test.YtbahadgcmaabcaaM
namespace Go.Proofs.Ytbahadgcmaabcaa
open Go.RowKit
/-- What is left of p patterns. -/
def nodesI (t : Tr) (p : Nat) : Int := if cnt t ≤ p then ((p - cnt t : Nat) : Int) else -1
set_option maxRecDepth 100000 in
theorem at8_now {w wr : World} {g o : Nat} {t : Tr} (h : At8 w g o t) (hg : g < w.heap.size) (hb : Below w.heap.size w wr) : At8 wr g o t := h.below hg hb
set_option maxRecDepth 100000 in
set_option maxHeartbeats 2000000 in
theorem nodes_any : ∀ (t : Tr) (p : Nat) (w : World), p ≤ 2000 → Lives w w.heap.size t → Calls Try.prog 9 #[t.val, .int .i64 p] w fun e w' => e = .returned (.int .i64 (nodesI t p)) ∧ Below w.heap.size w w' := by
  intro t
  induction t with
  | nul => intro p w hp hL; exact hL.elim
  | node k s lo hi a n cap kid ih =>
  intro p w hp hL
  show Calls Try.prog 9 #[nodeV k s lo hi (.slice a n cap), .int .i64 p] w _
  obtain ⟨_, hcap, hm, hat, hlv⟩ := hL
  have HAT := Lib.hid hat
  have HLV := Lib.hid hlv
  unfold maxLen at hm
  clear hat hlv
  obtain ⟨R, hR⟩ : ∃ R, R = nodesI (.node k s lo hi a n cap kid) p := ⟨_, rfl⟩
  rw [← hR]
  have HR := Lib.hid hR
  have HM := Lib.hid (fun (i : Nat) (h : i ≤ n) => sumTo_mono (fun i => cnt (kid i)) h)
  have HCN := Lib.hid (show cnt (.node k s lo hi a n cap kid) = 1 + sumTo (fun i => cnt (kid i)) n from rfl)
  clear hR
  go_enter Try.func9, Try.ntmps9
  go_wp2
  go_loopw [1, 5] (fun q c wr => ∃ j : Nat, j ≤ n ∧ c = .int .i64 j ∧ Hid ((sumTo (fun i => cnt (kid i)) j + 1 ≤ p ∧ q = .int .i64 ((p : Int) - 1 - (sumTo (fun i => cnt (kid i)) j : Int))) ∨ (p < 1 + sumTo (fun i => cnt (kid i)) n ∧ q = .int .i64 (-1))) ∧ Hid (wr.heap[w.heap.size]? = some (.cells (row8 k s lo hi (.slice a n cap)) 27 (0, 0))) ∧ Below w.heap.size w wr) (fun _ c _ => n - (intOf c).toNat)
  case atStart =>
    refine ⟨0, by omega, rfl, ?_, Lib.hid (heap_alloc_new _ _), alloc_below _ _⟩
    by_cases h : 1 ≤ p
    · exact Or.inl ⟨by simp only [sumTo]; omega, by simp [sumTo]⟩
    · exact Or.inr ⟨by omega, by have : p = 0 := (by omega); subst this; rfl⟩
  case round =>
    obtain ⟨j, hj, rfl, HA, HK, hb⟩ := hrel
    obtain ⟨x0, x1, x2, x3, x4, x5, x6, x7⟩ := cell8 HK.out
    clear x0 x1 x2 x3 x4 x5 x6
    rcases HA.out with ⟨hs, rfl⟩ | ⟨hs, rfl⟩
    · obtain ⟨S, hS⟩ : ∃ S, S = sumTo (fun i => cnt (kid i)) j := ⟨_, rfl⟩
      rw [← hS] at hs ⊢
      have HS := Lib.hid hS
      clear hS
      have hge : (0 : Int) ≤ (p : Int) - 1 - (S : Int) := by omega
      by_cases hlt : j < n
      · obtain ⟨g, off, rfl, hg, hc⟩ := HAT.out (by omega)
        obtain ⟨c0, c1, c2, c3, c4, c5, c6, c7⟩ := at8_now (hc j hlt) hg hb
        have HI := Lib.hid (ih j (p - 1 - S))
        have HQ := Lib.hid (show (p : Int) - 1 - (S : Int) = ((p - 1 - S : Nat) : Int) by omega)
        clear hc
        go_wp2_with fail
        rw [HQ.out]
        refine (HI.out _ (by omega) ((HLV.out j hlt).now hb)).mono ?_
        rintro e w2 ⟨rfl, hb2⟩
        have HB2 := Lib.hid (hb.trans (hb2.mono hb.size))
        have HK2 := Lib.hid ((hb2.block _ ((Array.getElem?_eq_some_iff.1 HK.out).1)).trans HK.out)
        clear hb2 hb c0 c1 c2 c3 c4 c5 c6 c7 x7
        have HST := Lib.hid (show (sumTo (fun i => cnt (kid i)) (j + 1) + 1 ≤ p ∧ nodesI (kid j) (p - 1 - S) = (p : Int) - 1 - (sumTo (fun i => cnt (kid i)) (j + 1) : Int)) ∨ (p < 1 + sumTo (fun i => cnt (kid i)) n ∧ nodesI (kid j) (p - 1 - S) = -1) by
          have hm1 := HM.out (j + 1) (by omega)
          simp only [sumTo] at hm1 ⊢
          rw [← HS.out] at hm1 ⊢
          unfold nodesI
          split
          · left; omega
          · right; omega)
        obtain ⟨y, hy⟩ : ∃ y, y = nodesI (kid j) (p - 1 - S) := ⟨_, rfl⟩
        rw [← hy] at HST ⊢
        clear hy
        go_wp2
        go_roundw
        case rel =>
          refine ⟨j + 1, by omega, by go_num, ?_, HK2, HB2.out⟩
          rcases HST.out with ⟨h1, h2⟩ | ⟨h1, h2⟩
          · exact Or.inl ⟨h1, by rw [h2]⟩
          · exact Or.inr ⟨h1, by rw [h2]⟩
        case measure => simp [intOf]; omega
      · obtain rfl : n = j := by omega
        have HX := Lib.hid (show R = (p : Int) - 1 - (S : Int) by rw [HR.out]; unfold nodesI; rw [HCN.out, ← HS.out, if_pos (by omega)]; omega)
        go_wp2
        go_ret
        exact ⟨ret_int HX.out.symm, hb⟩
    · have HX := Lib.hid (show R = -1 by rw [HR.out]; unfold nodesI; rw [HCN.out, if_neg (by omega)])
      by_cases hlt : j < n
      · go_wp2
        go_ret
        exact ⟨ret_int HX.out.symm, hb⟩
      · obtain rfl : n = j := by omega
        go_wp2
        go_ret
        exact ⟨ret_int HX.out.symm, hb⟩
set_option maxRecDepth 100000 in
theorem neqS_any (s s' : Nat → Int) {b : Bool} (h : eqS s s' = b) (w : World) : Sem.run Try.prog (binOp .neq 24 (SV s) (SV s')) w = .ok (.bool (!b)) w := by
  have h := eqS_any s s' h w
  rw [run_eql_struct] at h
  rw [run_neq_struct]
  generalize Sem.run Try.prog (Op.equalIn 10000 24 (SV s) (SV s')) w = r at h
  cases r with
  | ok b w1 => simp at h ⊢; exact ⟨by rw [h.1], h.2⟩
  | halt x w1 => simp [Result.andThen] at h
set_option maxRecDepth 100000 in
theorem min_one (m r Z : Nat) (hr : 0 < r) (hm : min 1000000 Z = m) : min 1000000 (r * m) = min 1000000 (r * Z) := by
  rcases Nat.le_total Z 1000000 with q | q
  · rw [Nat.min_eq_right q] at hm; rw [hm]
  · rw [Nat.min_eq_left q] at hm
    subst hm
    have h1 : 1000000 ≤ r * 1000000 := Nat.le_mul_of_pos_left _ hr
    have h2 : 1000000 ≤ r * Z := Nat.le_trans q (Nat.le_mul_of_pos_left _ hr)
    omega
set_option maxRecDepth 100000 in
theorem tim_pos {t : Tr} (h : fitsB t = true) (hk : t.k = 3 ∨ t.k = 4 ∨ t.k = 5) : ownT t = 0 ∧ 0 < timT t ∧ timT t ≤ 20 := by
  have hc := fits_cases h
  refine ⟨by unfold ownT; rw [if_neg (by omega)], ?_, ?_⟩
  · unfold timT
    split
    · omega
    · rw [if_pos (by omega)]; unfold repM; omega
  · unfold timT
    split
    · omega
    · rw [if_pos (by omega)]; unfold repM; omega
set_option maxRecDepth 100000 in
set_option maxHeartbeats 4000000 in
theorem refsize_any : ∀ (t : Tr) (w : World), fitT t = true → Lives w w.heap.size t → Calls Try.prog 12 #[t.val] w fun e w' => e = .returned (.int .i64 ((min 1000000 (sz t) : Nat) : Int)) ∧ Below w.heap.size w w' := by
  intro t
  induction t with
  | nul => intro w hf hL; exact hL.elim
  | node k s lo hi a n cap kid ih =>
  intro w hf hL
  show Calls Try.prog 12 #[nodeV k s lo hi (.slice a n cap)] w _
  have HFC := Lib.hid (fits_cases (fitT_fits hf))
  have HFK := Lib.hid (fun (i : Nat) (h : i < n) => fitT_kid (i := i) hf h)
  have HTP := Lib.hid (tim_pos (fitT_fits hf))
  obtain ⟨_, hcap, hm, hat, hlv⟩ := hL
  have HAT := Lib.hid hat
  have HLV := Lib.hid hlv
  unfold maxLen at hm
  have HSZ := Lib.hid (sz_eq (.node k s lo hi a n cap kid))
  obtain ⟨R, hR⟩ : ∃ R : Int, R = ((min 1000000 (sz (.node k s lo hi a n cap kid)) : Nat) : Int) := ⟨_, rfl⟩
  rw [← hR]
  have HR := Lib.hid hR
  clear hat hlv hf hR
  have hfc := HFC.out
  simp only [Tr.k, Tr.n, Tr.lo, Tr.hi] at hfc
  have hcs : (k = 1 ∧ n = 0) ∨ (k = 2 ∧ n = 0) ∨ (k = 3 ∨ k = 4 ∨ k = 5) := by omega
  clear hfc
  rcases hcs with ⟨rfl, rfl⟩ | ⟨rfl, rfl⟩ | hk
  · have HX := Lib.hid (show R = 0 by rw [HR.out]; simp [sz, ownT, timT, Tr.k])
    go_enter Try.func12, Try.ntmps12
    go_wp2
    go_ret
    exact ⟨ret_int HX.out.symm, alloc_below _ _⟩
  · have HX := Lib.hid (show R = 1 by rw [HR.out]; simp [sz, ownT, timT, Tr.k])
    go_enter Try.func12, Try.ntmps12
    go_wp2
    go_ret
    exact ⟨ret_int HX.out.symm, alloc_below _ _⟩
  · have htp := HTP.out hk
    obtain ⟨r, hr⟩ : ∃ r, r = timT (.node k s lo hi a n cap kid) := ⟨_, rfl⟩
    have HSZ2 := Lib.hid (show sz (.node k s lo hi a n cap kid) = r * sumTo (fun i => sz (kid i)) n by rw [HSZ.out, htp.1, ← hr, Nat.zero_add]; rfl)
    have HRP := Lib.hid (show 0 < r ∧ r ≤ 20 by rw [hr]; exact htp.2)
    have HRR := Lib.hid hr
    clear htp hr
    rcases hk with rfl | rfl | rfl
    · go_enter Try.func12, Try.ntmps12
      go_wp2
      go_loopw [3, 4] (fun v c wr => ∃ j m : Nat, j ≤ n ∧ c = .int .i64 j ∧ v = .int .i64 m ∧ Hid (min 1000000 (sumTo (fun i => sz (kid i)) j) = m) ∧ Hid (wr.heap[w.heap.size]? = some (.cells (row8 3 s lo hi (.slice a n cap)) 27 (0, 0))) ∧ Below w.heap.size w wr) (fun _ c _ => n - (intOf c).toNat)
      case atStart => exact ⟨0, 0, by omega, rfl, rfl, Lib.hid rfl, Lib.hid (heap_alloc_new _ _), alloc_below _ _⟩
      case round =>
        obtain ⟨j, m, hj, rfl, rfl, HM, HK, hb⟩ := hrel
        obtain ⟨x0, x1, x2, x3, x4, x5, x6, x7⟩ := cell8 HK.out
        have HM2 := Lib.hid (show m ≤ 1000000 by have := HM.out; omega)
        generalize hmi : (m : Int) = mi at *
        have HMI := Lib.hid hmi
        have hmi0 : 0 ≤ mi := by omega
        have hmi1 : mi ≤ 1000000 := by have := HM2.out; omega
        clear hmi
        by_cases hlt : j < n
        · obtain ⟨g, off, rfl, hg, hc⟩ := HAT.out (by omega)
          obtain ⟨c0, c1, c2, c3, c4, c5, c6, c7⟩ := (hc j hlt).below hg hb
          obtain ⟨y, hy⟩ : ∃ y : Int, y = ((min 1000000 (sz (kid j)) : Nat) : Int) := ⟨_, rfl⟩
          have HY := Lib.hid hy
          have hy0 : 0 ≤ y := by omega
          have hy1 : y ≤ 1000000 := by omega
          clear hc x0 x1 x2 x3 x4 x5 x6 hy
          go_wp2_with fail
          refine (ih j _ (HFK.out j hlt) ((HLV.out j hlt).now hb)).mono ?_
          rintro e w2 ⟨rfl, hb2⟩
          rw [← HY.out]
          have HB2 := Lib.hid (hb.trans (hb2.mono hb.size))
          have HK2 := Lib.hid ((hb2.block _ ((Array.getElem?_eq_some_iff.1 HK.out).1)).trans HK.out)
          clear hb2 hb c0 c1 c2 c3 c4 c5 c6 c7 x7
          by_cases hbig : 1000000 < mi + y
          · have HX := Lib.hid (show R = 1000000 by
              have h1 := sumTo_mono (fun i => sz (kid i)) (show j + 1 ≤ n by omega)
              simp only [sumTo] at h1
              have h2 := HM.out
              have h3 := HMI.out
              have h4 := HY.out
              have h5 : 1000000 ≤ sumTo (fun i => sz (kid i)) n := by omega
              have h6 : sumTo (fun i => sz (kid i)) n ≤ r * sumTo (fun i => sz (kid i)) n := Nat.le_mul_of_pos_left _ HRP.out.1
              rw [HR.out, HSZ2.out, Nat.min_eq_left (Nat.le_trans h5 h6)]
              rfl)
            go_wp2
            go_ret
            exact ⟨ret_int HX.out.symm, HB2.out⟩
          · have HN := Lib.hid (show min 1000000 (sumTo (fun i => sz (kid i)) (j + 1)) = (mi + y).toNat by
              simp only [sumTo]
              have h2 := HM.out
              have h3 := HMI.out
              have h4 := HY.out
              omega)
            go_wp2
            go_roundw
            case rel => exact ⟨j + 1, (mi + y).toNat, by omega, by go_num, by have : ((mi + y).toNat : Int) = mi + y := (by omega); rw [this], HN, HK2, HB2.out⟩
            case measure => simp [intOf]; omega
        · obtain rfl : n = j := by omega
          have HTM := Lib.hid (show R = ((min 1000000 (r * m) : Nat) : Int) by rw [HR.out, HSZ2.out, min_one m r _ HRP.out.1 HM.out])
          have HX := Lib.hid (show R = mi by
            have h1 : r = 1 := by rw [HRR.out]; rfl
            have h2 := HTM.out
            rw [h1, Nat.one_mul] at h2
            have h3 := HM2.out
            have h4 := HMI.out
            omega)
          go_wp2
          all_goals
            go_ret
            exact ⟨ret_int (by have := HX.out; omega), hb⟩
    · go_enter Try.func12, Try.ntmps12
      go_wp2
      go_loopw [3, 4] (fun v c wr => ∃ j m : Nat, j ≤ n ∧ c = .int .i64 j ∧ v = .int .i64 m ∧ Hid (min 1000000 (sumTo (fun i => sz (kid i)) j) = m) ∧ Hid (wr.heap[w.heap.size]? = some (.cells (row8 4 s lo hi (.slice a n cap)) 27 (0, 0))) ∧ Below w.heap.size w wr) (fun _ c _ => n - (intOf c).toNat)
      case atStart => exact ⟨0, 0, by omega, rfl, rfl, Lib.hid rfl, Lib.hid (heap_alloc_new _ _), alloc_below _ _⟩
      case round =>
        obtain ⟨j, m, hj, rfl, rfl, HM, HK, hb⟩ := hrel
        obtain ⟨x0, x1, x2, x3, x4, x5, x6, x7⟩ := cell8 HK.out
        have HM2 := Lib.hid (show m ≤ 1000000 by have := HM.out; omega)
        generalize hmi : (m : Int) = mi at *
        have HMI := Lib.hid hmi
        have hmi0 : 0 ≤ mi := by omega
        have hmi1 : mi ≤ 1000000 := by have := HM2.out; omega
        clear hmi
        by_cases hlt : j < n
        · obtain ⟨g, off, rfl, hg, hc⟩ := HAT.out (by omega)
          obtain ⟨c0, c1, c2, c3, c4, c5, c6, c7⟩ := (hc j hlt).below hg hb
          obtain ⟨y, hy⟩ : ∃ y : Int, y = ((min 1000000 (sz (kid j)) : Nat) : Int) := ⟨_, rfl⟩
          have HY := Lib.hid hy
          have hy0 : 0 ≤ y := by omega
          have hy1 : y ≤ 1000000 := by omega
          clear hc x0 x1 x2 x3 x4 x5 x6 hy
          go_wp2_with fail
          refine (ih j _ (HFK.out j hlt) ((HLV.out j hlt).now hb)).mono ?_
          rintro e w2 ⟨rfl, hb2⟩
          rw [← HY.out]
          have HB2 := Lib.hid (hb.trans (hb2.mono hb.size))
          have HK2 := Lib.hid ((hb2.block _ ((Array.getElem?_eq_some_iff.1 HK.out).1)).trans HK.out)
          clear hb2 hb c0 c1 c2 c3 c4 c5 c6 c7 x7
          by_cases hbig : 1000000 < mi + y
          · have HX := Lib.hid (show R = 1000000 by
              have h1 := sumTo_mono (fun i => sz (kid i)) (show j + 1 ≤ n by omega)
              simp only [sumTo] at h1
              have h2 := HM.out
              have h3 := HMI.out
              have h4 := HY.out
              have h5 : 1000000 ≤ sumTo (fun i => sz (kid i)) n := by omega
              have h6 : sumTo (fun i => sz (kid i)) n ≤ r * sumTo (fun i => sz (kid i)) n := Nat.le_mul_of_pos_left _ HRP.out.1
              rw [HR.out, HSZ2.out, Nat.min_eq_left (Nat.le_trans h5 h6)]
              rfl)
            go_wp2
            go_ret
            exact ⟨ret_int HX.out.symm, HB2.out⟩
          · have HN := Lib.hid (show min 1000000 (sumTo (fun i => sz (kid i)) (j + 1)) = (mi + y).toNat by
              simp only [sumTo]
              have h2 := HM.out
              have h3 := HMI.out
              have h4 := HY.out
              omega)
            go_wp2
            go_roundw
            case rel => exact ⟨j + 1, (mi + y).toNat, by omega, by go_num, by have : ((mi + y).toNat : Int) = mi + y := (by omega); rw [this], HN, HK2, HB2.out⟩
            case measure => simp [intOf]; omega
        · obtain rfl : n = j := by omega
          have HTM := Lib.hid (show R = ((min 1000000 (r * m) : Nat) : Int) by rw [HR.out, HSZ2.out, min_one m r _ HRP.out.1 HM.out])
          have HX := Lib.hid (show R = mi by
            have h1 : r = 1 := by rw [HRR.out]; rfl
            have h2 := HTM.out
            rw [h1, Nat.one_mul] at h2
            have h3 := HM2.out
            have h4 := HMI.out
            omega)
          go_wp2
          all_goals
            go_ret
            exact ⟨ret_int (by have := HX.out; omega), hb⟩
    · go_enter Try.func12, Try.ntmps12
      go_wp2
      go_loopw [3, 4] (fun v c wr => ∃ j m : Nat, j ≤ n ∧ c = .int .i64 j ∧ v = .int .i64 m ∧ Hid (min 1000000 (sumTo (fun i => sz (kid i)) j) = m) ∧ Hid (wr.heap[w.heap.size]? = some (.cells (row8 5 s lo hi (.slice a n cap)) 27 (0, 0))) ∧ Below w.heap.size w wr) (fun _ c _ => n - (intOf c).toNat)
      case atStart => exact ⟨0, 0, by omega, rfl, rfl, Lib.hid rfl, Lib.hid (heap_alloc_new _ _), alloc_below _ _⟩
      case round =>
        obtain ⟨j, m, hj, rfl, rfl, HM, HK, hb⟩ := hrel
        obtain ⟨x0, x1, x2, x3, x4, x5, x6, x7⟩ := cell8 HK.out
        have HM2 := Lib.hid (show m ≤ 1000000 by have := HM.out; omega)
        generalize hmi : (m : Int) = mi at *
        have HMI := Lib.hid hmi
        have hmi0 : 0 ≤ mi := by omega
        have hmi1 : mi ≤ 1000000 := by have := HM2.out; omega
        clear hmi
        by_cases hlt : j < n
        · obtain ⟨g, off, rfl, hg, hc⟩ := HAT.out (by omega)
          obtain ⟨c0, c1, c2, c3, c4, c5, c6, c7⟩ := (hc j hlt).below hg hb
          obtain ⟨y, hy⟩ : ∃ y : Int, y = ((min 1000000 (sz (kid j)) : Nat) : Int) := ⟨_, rfl⟩
          have HY := Lib.hid hy
          have hy0 : 0 ≤ y := by omega
          have hy1 : y ≤ 1000000 := by omega
          clear hc x0 x1 x2 x3 x4 x5 x6 hy
          go_wp2_with fail
          refine (ih j _ (HFK.out j hlt) ((HLV.out j hlt).now hb)).mono ?_
          rintro e w2 ⟨rfl, hb2⟩
          rw [← HY.out]
          have HB2 := Lib.hid (hb.trans (hb2.mono hb.size))
          have HK2 := Lib.hid ((hb2.block _ ((Array.getElem?_eq_some_iff.1 HK.out).1)).trans HK.out)
          clear hb2 hb c0 c1 c2 c3 c4 c5 c6 c7 x7
          by_cases hbig : 1000000 < mi + y
          · have HX := Lib.hid (show R = 1000000 by
              have h1 := sumTo_mono (fun i => sz (kid i)) (show j + 1 ≤ n by omega)
              simp only [sumTo] at h1
              have h2 := HM.out
              have h3 := HMI.out
              have h4 := HY.out
              have h5 : 1000000 ≤ sumTo (fun i => sz (kid i)) n := by omega
              have h6 : sumTo (fun i => sz (kid i)) n ≤ r * sumTo (fun i => sz (kid i)) n := Nat.le_mul_of_pos_left _ HRP.out.1
              rw [HR.out, HSZ2.out, Nat.min_eq_left (Nat.le_trans h5 h6)]
              rfl)
            go_wp2
            go_ret
            exact ⟨ret_int HX.out.symm, HB2.out⟩
          · have HN := Lib.hid (show min 1000000 (sumTo (fun i => sz (kid i)) (j + 1)) = (mi + y).toNat by
              simp only [sumTo]
              have h2 := HM.out
              have h3 := HMI.out
              have h4 := HY.out
              omega)
            go_wp2
            go_roundw
            case rel => exact ⟨j + 1, (mi + y).toNat, by omega, by go_num, by have : ((mi + y).toNat : Int) = mi + y := (by omega); rw [this], HN, HK2, HB2.out⟩
            case measure => simp [intOf]; omega
        · obtain rfl : n = j := by omega
          have HTM := Lib.hid (show R = ((min 1000000 (r * m) : Nat) : Int) by rw [HR.out, HSZ2.out, min_one m r _ HRP.out.1 HM.out])
          have hfc := HFC.out
          simp only [Tr.k, Tr.n, Tr.lo, Tr.hi] at hfc
          have HR5 := Lib.hid (show r = repM lo hi by rw [HRR.out]; rfl)
          have b1 : 0 ≤ lo ∧ lo ≤ 20 ∧ -1 ≤ hi ∧ hi ≤ 20 := by omega
          obtain ⟨b1, b2, b3, b4⟩ := b1
          clear hfc
          have hcc : (lo < hi ∧ 1 < hi) ∨ (lo = hi ∧ 1 < lo) ∨ (hi < lo ∧ 1 < lo) ∨ ((lo = 0 ∨ lo = 1) ∧ (hi = -1 ∨ hi = 0 ∨ hi = 1)) := by omega
          rcases hcc with ⟨hcc, hc2⟩ | ⟨rfl, hcc⟩ | ⟨hcc, hc2⟩ | hcc
          · have h1 : (r : Int) = hi := by rw [HR5.out]; unfold repM; omega
            have hlt1000 : hi < 1000 := by omega
            have HQ := Lib.hid (show R = min 1000000 (mi * hi) by
              have h2 := HTM.out
              have h3 := HMI.out
              have h4 : ((r * m : Nat) : Int) = mi * hi := by rw [← h3, Nat.mul_comm]; simp [h1]
              omega)
            obtain ⟨qi, hqi⟩ : ∃ qi, qi = mi * hi := ⟨_, rfl⟩
            have hq0 : 0 ≤ qi := by rw [hqi]; exact Int.mul_nonneg hmi0 (by omega)
            have hq1 : qi ≤ 20000000 := by
              rw [hqi]
              exact Int.le_trans (Int.mul_le_mul_of_nonneg_right hmi1 (by omega)) (by omega)
            have HQI := Lib.hid hqi
            have hqq : mi * hi = qi := hqi.symm
            clear hqi h1
            go_wp2
            all_goals
              go_ret
              exact ⟨ret_int (by have h1 := HQ.out; rw [← HQI.out] at h1; omega), hb⟩
          · have h1 : (r : Int) = lo := by rw [HR5.out]; unfold repM; omega
            have hlt1000 : lo < 1000 := by omega
            have HQ := Lib.hid (show R = min 1000000 (mi * lo) by
              have h2 := HTM.out
              have h3 := HMI.out
              have h4 : ((r * m : Nat) : Int) = mi * lo := by rw [← h3, Nat.mul_comm]; simp [h1]
              omega)
            obtain ⟨qi, hqi⟩ : ∃ qi, qi = mi * lo := ⟨_, rfl⟩
            have hq0 : 0 ≤ qi := by rw [hqi]; exact Int.mul_nonneg hmi0 (by omega)
            have hq1 : qi ≤ 20000000 := by
              rw [hqi]
              exact Int.le_trans (Int.mul_le_mul_of_nonneg_right hmi1 (by omega)) (by omega)
            have HQI := Lib.hid hqi
            have hqq : mi * lo = qi := hqi.symm
            clear hqi h1
            go_wp2
            all_goals
              go_ret
              exact ⟨ret_int (by have h1 := HQ.out; rw [← HQI.out] at h1; omega), hb⟩
          · have h1 : (r : Int) = lo := by rw [HR5.out]; unfold repM; omega
            have hlt1000 : lo < 1000 := by omega
            have HQ := Lib.hid (show R = min 1000000 (mi * lo) by
              have h2 := HTM.out
              have h3 := HMI.out
              have h4 : ((r * m : Nat) : Int) = mi * lo := by rw [← h3, Nat.mul_comm]; simp [h1]
              omega)
            obtain ⟨qi, hqi⟩ : ∃ qi, qi = mi * lo := ⟨_, rfl⟩
            have hq0 : 0 ≤ qi := by rw [hqi]; exact Int.mul_nonneg hmi0 (by omega)
            have hq1 : qi ≤ 20000000 := by
              rw [hqi]
              exact Int.le_trans (Int.mul_le_mul_of_nonneg_right hmi1 (by omega)) (by omega)
            have HQI := Lib.hid hqi
            have hqq : mi * lo = qi := hqi.symm
            clear hqi h1
            go_wp2
            all_goals
              go_ret
              exact ⟨ret_int (by have h1 := HQ.out; rw [← HQI.out] at h1; omega), hb⟩
          · have HX := Lib.hid (show R = mi by
              have h1 : r = 1 := by rw [HR5.out]; unfold repM; omega
              have h2 := HTM.out
              rw [h1, Nat.one_mul] at h2
              have h3 := HM2.out
              have h4 := HMI.out
              omega)
            clear b1 b2 b3 b4
            rcases hcc with ⟨rfl | rfl, rfl | rfl | rfl⟩
            all_goals
              go_wp2
              all_goals
                go_ret
                exact ⟨ret_int (by have := HX.out; omega), hb⟩
end Go.Proofs.Ytbahadgcmaabcaa
