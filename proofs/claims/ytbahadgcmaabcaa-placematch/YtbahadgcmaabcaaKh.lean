/- The builder's addRep. -/
import Derived.Test.YtbahadgcmaabcaaKg
import Derived.Test.YtbahadgcmaabcaaX
import Derived.Test.YtbahadgcmaabcaaJx
namespace Go.Proofs.Ytbahadgcmaabcaa
open Go.RowKit Go
set_option maxRecDepth 100000 in
set_option maxHeartbeats 1500000 in
theorem addRep_any (B p : Nat) (G : Gs) (s : Nat → Int) (lo hi : Int) (a : Option Addr) (n cap : Nat) (kid : Nat → Tr) (w : World) (hadd : AddC B p (kid 0)) (hbl : Bl B w p G) (hB : B ≤ w.heap.size) (hL : Lives w B (.node 5 s lo hi a n cap kid)) (hn0 : 0 < n) (hcn : countsB lo hi = true) (hf : fitT (kid 0) = true) (hc2 : cnt (kid 0) ≤ 2000) (hz : sz (kid 0) ≤ 900) (hn : G.n + ((plT (kid 0)).rep lo hi).n ≤ 1000) :
    Calls Try.prog 40 #[.pointer (some ⟨p, 0, none⟩), nodeV 5 s lo hi (.slice a n cap)] w (AddE B w p G ((plT (kid 0)).rep lo hi)) := by
  have hcc := hcn
  simp only [countsB, Bool.and_eq_true, Bool.or_eq_true, decide_eq_true_eq] at hcc
  have hlo0 : 0 ≤ lo := hcc.1
  have hlo1 : lo ≤ 20 := hcc.2.1
  have hhi : hi = -1 ∨ (max lo 1 ≤ hi ∧ hi ≤ 20) := hcc.2.2
  obtain ⟨_, hcap, hm, hat, hlv⟩ := hL
  have hLk := hlv 0 hn0
  unfold maxLen at hm
  obtain ⟨g, off, rfl, hg, hc⟩ := hat hn0
  have hc0 : At8 w g off (kid 0) := by simpa using hc 0 hn0
  have hgw : g < w.heap.size := Nat.lt_of_lt_of_le hg hB
  have hn0' : (0 : Int) < (n : Int) := by omega
  have HB := Lib.hid hB
  have HN := Lib.hid hn
  have HAD := Lib.hid hadd
  have HFT := Lib.hid (And.intro hf (And.intro hc2 hz))
  have HG := Lib.hid hbl.1
  have hb2 := alloc2_below w (.cells (row8 5 s lo hi (.slice (some ⟨g, off, none⟩) n cap)) 27) (.cells part0 58)
  have HS0 := Lib.hid (AcS.start2 hbl (.cells (row8 5 s lo hi (.slice (some ⟨g, off, none⟩) n cap)) 27))
  have HX0 := Lib.hid (heap2 w (.cells (row8 5 s lo hi (.slice (some ⟨g, off, none⟩) n cap)) 27) (.cells part0 58)).1
  have HL0 := Lib.hid (hLk.below (hb2.mono hB))
  obtain ⟨c0, c1, c2, c3, c4, c5, c6, c7⟩ := hc0.below hgw hb2
  obtain ⟨x0, x1, x2, x3, x4, x5, x6, x7⟩ := cell8 HX0.out
  clear hadd hbl hB hn hcn hcc hf hc2 hz hat hlv hLk hg hc hc0 hgw hb2
  go_enter Try.func40, Try.ntmps40
  go_upto_region 2 with fail
  obtain ⟨w3, hw3⟩ : ∃ x, x = ((w.alloc (.cells (row8 5 s lo hi (.slice (some ⟨g, off, none⟩) n cap)) 27)).alloc (.cells part0 58)).alloc (.cells (row8 (kid 0).k (kid 0).s (kid 0).lo (kid 0).hi (.slice (kid 0).a (kid 0).n (kid 0).cap)) 27) := ⟨_, rfl⟩
  obtain ⟨qk, hqk⟩ : ∃ q, q = w.heap.size + 1 + 1 := ⟨_, rfl⟩
  have hb3 : Below ((w.alloc (.cells (row8 5 s lo hi (.slice (some ⟨g, off, none⟩) n cap)) 27)).alloc (.cells part0 58)).heap.size ((w.alloc (.cells (row8 5 s lo hi (.slice (some ⟨g, off, none⟩) n cap)) 27)).alloc (.cells part0 58)) w3 := by rw [hw3]; exact alloc_below _ _
  have HK3 : Hid (w3.heap[qk]? = some (.cells (row8 (kid 0).k (kid 0).s (kid 0).lo (kid 0).hi (.slice (kid 0).a (kid 0).n (kid 0).cap)) 27 (0, 0))) := Lib.hid (by rw [hw3, hqk]; exact fresh _ _ (by simp))
  have HX3 := Lib.hid ((hb3.block _ (lt_heap HX0.out)).trans HX0.out)
  have HS3 := Lib.hid (HS0.out.below hb3)
  have HL3 := Lib.hid (HL0.out.below ((KT.of (B := B) hb3).below (Nat.le_trans HB.out (by simp; omega))))
  have HQK := Lib.hid (show qk = w.heap.size + 2 from hqk)
  rw [← hw3, ← hqk]
  clear hw3 hqk hb3 x0 x1 x2 x3 x4 x5 x6 x7 c0 c1 c2 c3 c4 c5 c6 c7 HX0 HS0 HL0
  have HSZ := Lib.hid (size_any (kid 0) w3 (HL3.out.mono (Nat.le_trans HB.out HS3.out.kt.size)) HFT.out.1 HFT.out.2.1)
  obtain ⟨k0, k1, k2, k3, k4, k5, k6, k7⟩ := cell8 HK3.out
  go_wp2_with fail
  refine HSZ.out.mono ?_
  rintro e w4 ⟨rfl, hb⟩
  have HS4 := Lib.hid (HS3.out.below hb)
  have HX4 := Lib.hid ((hb.block _ (lt_heap HX3.out)).trans HX3.out)
  have HK4 := Lib.hid ((hb.block _ (lt_heap HK3.out)).trans HK3.out)
  have HL4 := Lib.hid (HL3.out.below (hb.mono (Nat.le_trans HB.out HS3.out.kt.size)))
  obtain ⟨Z, hZ⟩ : ∃ Z, Z = sz (kid 0) := ⟨_, rfl⟩
  rw [show ((min 1000000 (sz (kid 0)) : Nat) : Int) = (Z : Int) by rw [hZ]; have := HFT.out.2.2; omega]
  have HZ := Lib.hid hZ
  clear hZ hb HS3 HX3 HK3 HL3 HSZ k0 k1 k2 k3 k4 k5 k6 k7
  have hbr4 := HS4.out.br
  obtain ⟨x0, x1, x2, x3, x4, x5, x6, x7⟩ := cell8 HX4.out
  obtain ⟨k0, k1, k2, k3, k4, k5, k6, k7⟩ := cell8 HK4.out
  obtain ⟨l0, l1, l2⟩ := cell3 hbr4
  have m0 := frozen4 hbr4 0
  have m1 := frozen4 hbr4 1
  have m2 := frozen4 hbr4 2
  clear hbr4
  by_cases hz0 : Z = 0
  · subst hz0
    have HREP : Hid ((plT (kid 0)).rep lo hi = Pl.nil true) := Lib.hid (by rw [plT_none _ HFT.out.1 HZ.out.symm]; exact rep_nil lo hi)
    have HF := Lib.hid (HS4.out.fin (P := Pl.nil true) (Gs.add_nil HG.out true).symm (pt_nil _ G.n true) rfl)
    go_wp2
    exact bodyPost_ret (ret3c Try.results40 rfl HF.out.1) rfl (by first | (rw [HREP.out]; exact HF.out.2) | (rw [← HCC.out, HREP.out]; exact HF.out.2))
  · have hz1 : ¬ (Z : Int) = 0 := by omega
    obtain ⟨C, hC⟩ : ∃ C, C = plT (kid 0) := ⟨_, rfl⟩
    have HPO : Hid C.Ok := Lib.hid (by rw [hC]; exact plT_ok _)
    rw [← hC] at HN ⊢
    have HCC := Lib.hid hC
    clear hC
    by_cases hneg : hi = -1
    · subst hneg
      have HREP := Lib.hid (show C.rep lo (-1) = (C.pows (lo - 1).toNat).cat (C.loop.orN (decide (lo = 0))) by unfold Pl.rep; rw [if_pos (by omega)])
      have HN2 := Lib.hid (show G.n + (C.pows (lo - 1).toNat).n + C.n ≤ 1000 by have := HN.out; rw [HREP.out] at this; have e : ((C.pows (lo - 1).toNat).cat (C.loop.orN (decide (lo = 0)))).n = (C.pows (lo - 1).toNat).n + C.n := rfl; omega)
      obtain ⟨M, hM⟩ : ∃ M, M = (lo - 1).toNat := ⟨_, rfl⟩
      rw [← hM] at HREP HN2
      have HCP : Hid (Calls Try.prog 56 #[.pointer (some ⟨p, 0, none⟩), nodeV (kid 0).k (kid 0).s (kid 0).lo (kid 0).hi (.slice (kid 0).a (kid 0).n (kid 0).cap), .int .i64 (M : Int)] w4 (AddE B w4 p G (C.pows M))) := Lib.hid (by
        have := addCopies_any B p G (kid 0) M w4 (by omega) HAD.out HS4.out.bl (Nat.le_trans HB.out HS4.out.kt.size) HL4.out (by rw [← HCC.out]; have := HN2.out; omega)
        rw [← HCC.out] at this
        exact this)
      go_wp2_with fail
      · have e9 : (M : Int) = 0 := by omega
        rw [e9] at HCP
        refine HCP.out.mono ?_
        rintro e w5 ⟨v, rfl, hP, hG, hk⟩
        obtain ⟨a1, a2, a3, a4, a5, a6, rfl⟩ := hP.forms
        have hb6 := alloc_below w5 (.cells #[.slice a1 a2 a3, .slice a4 a5 a6, .bool (C.pows M).nu] 58)
        have hkk := hk.trans (KT.of hb6)
        have HS6 := Lib.hid ((HS4.out.go hk hG).below hb6)
        have HX6 := Lib.hid (hkk.heap HX4.out (by decide) (by decide) (by decide))
        have HK6 := Lib.hid (hkk.heap HK4.out (by decide) (by decide) (by decide))
        have HL6 := Lib.hid (HL4.out.below (hkk.below (Nat.le_trans HB.out HS4.out.kt.size)))
        have HA6 := Lib.hid (heap_alloc_new w5 (.cells #[.slice a1 a2 a3, .slice a4 a5 a6, .bool (C.pows M).nu] 58))
        have HP6 := Lib.hid (hP.below hb6)
        clear hP hG hk hb6 hkk HS4 HX4 HK4 HL4 HCP hM e9 x0 x1 x2 x3 x4 x5 x6 x7 k0 k1 k2 k3 k4 k5 k6 k7 l0 l1 l2 m0 m1 m2
        go_upto_region 6 with fail
        obtain ⟨w6, hw⟩ : ∃ x, x = w5.alloc (.cells #[.slice a1 a2 a3, .slice a4 a5 a6, .bool (C.pows M).nu] 58) := ⟨_, rfl⟩
        obtain ⟨qa, hq⟩ : ∃ q, q = w5.heap.size := ⟨_, rfl⟩
        rw [← hw] at HS6 HX6 HK6 HL6 HP6
        rw [← hw, ← hq] at HA6
        rw [← hw, ← hq]
        clear hw hq
        have HLP : Hid (Calls Try.prog 57 #[.pointer (some ⟨p, 0, none⟩), nodeV (kid 0).k (kid 0).s (kid 0).lo (kid 0).hi (.slice (kid 0).a (kid 0).n (kid 0).cap)] w6 (AddE B w6 p (G.add (C.pows M)) C.loop)) := Lib.hid (by
          have := addLoop_any B p (G.add (C.pows M)) (kid 0) w6 HAD.out HS6.out.bl (Nat.le_trans HB.out HS6.out.kt.size) HL6.out (by rw [← HCC.out]; exact HN2.out)
          rw [← HCC.out] at this
          exact this)
        obtain ⟨k0, k1, k2, k3, k4, k5, k6, k7⟩ := cell8 HK6.out
        go_wp2_with fail
        refine HLP.out.mono ?_
        rintro e w7 ⟨v, rfl, hP, hG, hk⟩
        obtain ⟨b1, b2, b3, b4, b5, b6, rfl⟩ := hP.forms
        have hb8 := alloc_below w7 (.cells #[.slice b1 b2 b3, .slice b4 b5 b6, .bool C.loop.nu] 58)
        have hkk := hk.trans (KT.of hb8)
        have HS8 := Lib.hid ((HS6.out.go hk hG).below hb8)
        have HX8 := Lib.hid (hkk.heap HX6.out (by decide) (by decide) (by decide))
        have HA8 := Lib.hid (hkk.heap HA6.out (by decide) (by decide) (by decide))
        have HP8 := Lib.hid (HP6.out.kt hkk)
        have HC8 := Lib.hid (heap_alloc_new w7 (.cells #[.slice b1 b2 b3, .slice b4 b5 b6, .bool C.loop.nu] 58))
        have HV8 := Lib.hid (hP.below hb8)
        have HQQ := Lib.hid (show qa < w7.heap.size from lt_heap (hk.heap HA6.out (by decide) (by decide) (by decide)))
        have HQR := Lib.hid (show w.heap.size + 1 < w7.heap.size from lt_heap (HS6.out.go hk hG).br)
        clear hP hG hk hb8 hkk HS6 HX6 HK6 HL6 HA6 HP6 HLP k0 k1 k2 k3 k4 k5 k6 k7
        go_upto_region 7 with fail
        obtain ⟨w8, hw⟩ : ∃ x, x = w7.alloc (.cells #[.slice b1 b2 b3, .slice b4 b5 b6, .bool C.loop.nu] 58) := ⟨_, rfl⟩
        obtain ⟨qc, hq⟩ : ∃ q, q = w7.heap.size := ⟨_, rfl⟩
        rw [← hw] at HS8 HX8 HA8 HP8 HV8
        rw [← hw, ← hq] at HC8
        rw [← hq] at HQQ HQR
        rw [← hw, ← hq]
        clear hw hq
        obtain ⟨u, hu⟩ : ∃ u, u = C.loop.nu := ⟨_, rfl⟩
        have HUU := Lib.hid hu
        obtain ⟨D, hD⟩ : ∃ D, D = C.loop.orN (decide (lo = 0)) := ⟨_, rfl⟩
        have HDN : Hid (D.nu = (u || decide (lo = 0))) := Lib.hid (by rw [hD, hu]; rfl)
        have HDO : Hid D.Ok := Lib.hid (by rw [hD]; exact HPO.out.loop.orN _)
        have HDG : Hid ((G.add (C.pows M)).add C.loop = (G.add (C.pows M)).add D) := Lib.hid (by rw [hD]; rfl)
        rw [← hD] at HREP
        have HDV : Hid (∀ (W : World) (b : Bool), (u || decide (lo = 0)) = b → PtV W (.agg #[.slice b1 b2 b3, .slice b4 b5 b6, .bool C.loop.nu]) (C.loop.part (G.n + (C.pows M).n)) → PtV W (.agg #[.slice b1 b2 b3, .slice b4 b5 b6, .bool b]) (D.part (G.n + (C.pows M).n))) := Lib.hid fun W b hb hP => by
          obtain ⟨lf, ll, i1, s1, i2, s2⟩ := hP.lists
          have hn : (D.part (G.n + (C.pows M).n)).nu = b := HDN.out.trans hb
          exact ⟨_, _, lf, ll, by rw [hn], i1, by rw [hD]; exact s1, i2, by rw [hD]; exact s2⟩
        rw [← hu] at HC8
        clear hu hD
        have HEN : Hid (∀ b : Bool, (u || decide (lo = 0)) = b → AcS B w p ((G.add (C.pows M)).add D) (w.heap.size + 1) (w8.setCell ⟨qc, 2, none⟩ (.bool b)) ∧ (w8.setCell ⟨qc, 2, none⟩ (.bool b)).heap[qc]? = some (.cells #[.slice b1 b2 b3, .slice b4 b5 b6, .bool b] 58 (0, 0)) ∧ (w8.setCell ⟨qc, 2, none⟩ (.bool b)).heap[qa]? = some (.cells #[.slice a1 a2 a3, .slice a4 a5 a6, .bool (C.pows M).nu] 58 (0, 0)) ∧ PtV (w8.setCell ⟨qc, 2, none⟩ (.bool b)) (.agg #[.slice b1 b2 b3, .slice b4 b5 b6, .bool b]) (D.part (G.n + (C.pows M).n)) ∧ PtV (w8.setCell ⟨qc, 2, none⟩ (.bool b)) (.agg #[.slice a1 a2 a3, .slice a4 a5 a6, .bool (C.pows M).nu]) ((C.pows M).part G.n)) := Lib.hid fun b hb => by
          have hg := grown_set w8 qc 2 (.bool b)
          have hk : ∀ k, some qc = some k → ∃ cs e', w8.heap[k]? = some (.cells cs e' (0, 0)) ∧ e' ≠ 3 := fun k hk => by cases hk; exact ⟨_, _, HC8.out, by decide⟩
          refine ⟨?_, set_2 (.bool b) HC8.out, (hg.block qa (lt_heap HA8.out) fun e => by have := Option.some.inj e; have := HQQ.out; omega).trans HA8.out, HDV.out _ b hb (HV8.out.kept hg hk), HP8.out.kept hg hk⟩
          rw [← HDG.out]
          exact HS8.out.grow hg HC8.out (by have := HQR.out; omega) (by have := HQR.out; omega)
        obtain ⟨Q, hQ⟩ : ∃ Q, Q = C.pows M := ⟨_, rfl⟩
        have HQO : Hid Q.Ok := Lib.hid (by rw [hQ]; exact HPO.out.pows M)
        rw [← hQ] at HEN HREP HA8 HN2
        have HDn : Hid (D.n = C.n) := Lib.hid (by have := congrArg Gs.n HDG.out; have e1 : ((G.add (C.pows M)).add C.loop).n = (G.add (C.pows M)).n + C.n := rfl; have e2 : ((G.add (C.pows M)).add D).n = (G.add (C.pows M)).n + D.n := rfl; omega)
        clear hQ HP8 HV8 HDV HDG
        obtain ⟨x0, x1, x2, x3, x4, x5, x6, x7⟩ := cell8 HX8.out
        obtain ⟨z0, z1, z2⟩ := cell3 HC8.out
        have zf0 := frozen4 HC8.out 0
        have zf1 := frozen4 HC8.out 1
        have zf2 := frozen4 HC8.out 2
        have h0 : lo = 0 := by omega
        subst h0
        cases u
        · obtain ⟨hs9, hc9, ha9, hd9, hv9⟩ := HEN.out true (by simp)
          have HS9 := Lib.hid hs9
          have HC9 := Lib.hid hc9
          have HA9 := Lib.hid ha9
          have HD9 := Lib.hid hd9
          have HV9 := Lib.hid hv9
          clear hs9 hc9 ha9 hd9 hv9
          go_upto_region 8 with fail
          obtain ⟨w9, hw⟩ : ∃ x, x = w8.setCell ⟨qc, 2, none⟩ (.bool true) := ⟨_, rfl⟩
          rw [← hw] at HS9 HC9 HA9 HD9 HV9
          rw [← hw]
          clear hw x0 x1 x2 x3 x4 x5 x6 x7 z0 z1 z2 zf0 zf1 zf2
          obtain ⟨z0, z1, z2⟩ := cell3 HC9.out
          obtain ⟨y0, y1, y2⟩ := cell3 HA9.out
          have HJN := Lib.hid (joined54_any B p ((G.add Q).add D) (Q.part G.n) (D.part (G.n + Q.n)) _ _ w9 HS9.out.bl (by have := HN2.out; have := HDn.out; show G.n + Q.n + D.n ≤ 1000; omega) HV9.out HD9.out (Pl.part_le HQO.out G.n _ (Nat.le_add_right _ _)) (Pl.part_le HDO.out (G.n + Q.n) _ (Nat.le_refl _)))
          go_wp2_with fail
          refine HJN.out.mono ?_
          rintro e w10 ⟨v, rfl, hP, hG, hk⟩
          rw [Gs.cat_link G HQO.out] at hG
          rw [Pl.part_cat HQO.out] at hP
          obtain ⟨d1, d2, d3, d4, d5, d6, rfl⟩ := hP.forms
          have HS10 := Lib.hid (HS9.out.go hk hG)
          have HF := Lib.hid (HS10.out.fin (P := Q.cat D) rfl hP rfl)
          have hbr := HS10.out.br
          clear z0 z1 z2 y0 y1 y2
          obtain ⟨l0, l1, l2⟩ := cell3 hbr
          have m0 := frozen4 hbr 0
          have m1 := frozen4 hbr 1
          have m2 := frozen4 hbr 2
          clear hbr hP hG hk
          go_wp2
          exact bodyPost_ret (ret3c Try.results40 rfl HF.out.1) rfl (by first | (rw [HREP.out]; exact HF.out.2) | (rw [← HCC.out, HREP.out]; exact HF.out.2))
        · obtain ⟨hs9, hc9, ha9, hd9, hv9⟩ := HEN.out true (by simp)
          have HS9 := Lib.hid hs9
          have HC9 := Lib.hid hc9
          have HA9 := Lib.hid ha9
          have HD9 := Lib.hid hd9
          have HV9 := Lib.hid hv9
          clear hs9 hc9 ha9 hd9 hv9
          go_upto_region 8 with fail
          obtain ⟨w9, hw⟩ : ∃ x, x = w8.setCell ⟨qc, 2, none⟩ (.bool true) := ⟨_, rfl⟩
          rw [← hw] at HS9 HC9 HA9 HD9 HV9
          rw [← hw]
          clear hw x0 x1 x2 x3 x4 x5 x6 x7 z0 z1 z2 zf0 zf1 zf2
          obtain ⟨z0, z1, z2⟩ := cell3 HC9.out
          obtain ⟨y0, y1, y2⟩ := cell3 HA9.out
          have HJN := Lib.hid (joined54_any B p ((G.add Q).add D) (Q.part G.n) (D.part (G.n + Q.n)) _ _ w9 HS9.out.bl (by have := HN2.out; have := HDn.out; show G.n + Q.n + D.n ≤ 1000; omega) HV9.out HD9.out (Pl.part_le HQO.out G.n _ (Nat.le_add_right _ _)) (Pl.part_le HDO.out (G.n + Q.n) _ (Nat.le_refl _)))
          go_wp2_with fail
          refine HJN.out.mono ?_
          rintro e w10 ⟨v, rfl, hP, hG, hk⟩
          rw [Gs.cat_link G HQO.out] at hG
          rw [Pl.part_cat HQO.out] at hP
          obtain ⟨d1, d2, d3, d4, d5, d6, rfl⟩ := hP.forms
          have HS10 := Lib.hid (HS9.out.go hk hG)
          have HF := Lib.hid (HS10.out.fin (P := Q.cat D) rfl hP rfl)
          have hbr := HS10.out.br
          clear z0 z1 z2 y0 y1 y2
          obtain ⟨l0, l1, l2⟩ := cell3 hbr
          have m0 := frozen4 hbr 0
          have m1 := frozen4 hbr 1
          have m2 := frozen4 hbr 2
          clear hbr hP hG hk
          go_wp2
          exact bodyPost_ret (ret3c Try.results40 rfl HF.out.1) rfl (by first | (rw [HREP.out]; exact HF.out.2) | (rw [← HCC.out, HREP.out]; exact HF.out.2))
      · have e9 : (M : Int) = lo - 1 := by omega
        rw [e9] at HCP
        refine HCP.out.mono ?_
        rintro e w5 ⟨v, rfl, hP, hG, hk⟩
        obtain ⟨a1, a2, a3, a4, a5, a6, rfl⟩ := hP.forms
        have hb6 := alloc_below w5 (.cells #[.slice a1 a2 a3, .slice a4 a5 a6, .bool (C.pows M).nu] 58)
        have hkk := hk.trans (KT.of hb6)
        have HS6 := Lib.hid ((HS4.out.go hk hG).below hb6)
        have HX6 := Lib.hid (hkk.heap HX4.out (by decide) (by decide) (by decide))
        have HK6 := Lib.hid (hkk.heap HK4.out (by decide) (by decide) (by decide))
        have HL6 := Lib.hid (HL4.out.below (hkk.below (Nat.le_trans HB.out HS4.out.kt.size)))
        have HA6 := Lib.hid (heap_alloc_new w5 (.cells #[.slice a1 a2 a3, .slice a4 a5 a6, .bool (C.pows M).nu] 58))
        have HP6 := Lib.hid (hP.below hb6)
        clear hP hG hk hb6 hkk HS4 HX4 HK4 HL4 HCP hM e9 x0 x1 x2 x3 x4 x5 x6 x7 k0 k1 k2 k3 k4 k5 k6 k7 l0 l1 l2 m0 m1 m2
        go_upto_region 6 with fail
        obtain ⟨w6, hw⟩ : ∃ x, x = w5.alloc (.cells #[.slice a1 a2 a3, .slice a4 a5 a6, .bool (C.pows M).nu] 58) := ⟨_, rfl⟩
        obtain ⟨qa, hq⟩ : ∃ q, q = w5.heap.size := ⟨_, rfl⟩
        rw [← hw] at HS6 HX6 HK6 HL6 HP6
        rw [← hw, ← hq] at HA6
        rw [← hw, ← hq]
        clear hw hq
        have HLP : Hid (Calls Try.prog 57 #[.pointer (some ⟨p, 0, none⟩), nodeV (kid 0).k (kid 0).s (kid 0).lo (kid 0).hi (.slice (kid 0).a (kid 0).n (kid 0).cap)] w6 (AddE B w6 p (G.add (C.pows M)) C.loop)) := Lib.hid (by
          have := addLoop_any B p (G.add (C.pows M)) (kid 0) w6 HAD.out HS6.out.bl (Nat.le_trans HB.out HS6.out.kt.size) HL6.out (by rw [← HCC.out]; exact HN2.out)
          rw [← HCC.out] at this
          exact this)
        obtain ⟨k0, k1, k2, k3, k4, k5, k6, k7⟩ := cell8 HK6.out
        go_wp2_with fail
        refine HLP.out.mono ?_
        rintro e w7 ⟨v, rfl, hP, hG, hk⟩
        obtain ⟨b1, b2, b3, b4, b5, b6, rfl⟩ := hP.forms
        have hb8 := alloc_below w7 (.cells #[.slice b1 b2 b3, .slice b4 b5 b6, .bool C.loop.nu] 58)
        have hkk := hk.trans (KT.of hb8)
        have HS8 := Lib.hid ((HS6.out.go hk hG).below hb8)
        have HX8 := Lib.hid (hkk.heap HX6.out (by decide) (by decide) (by decide))
        have HA8 := Lib.hid (hkk.heap HA6.out (by decide) (by decide) (by decide))
        have HP8 := Lib.hid (HP6.out.kt hkk)
        have HC8 := Lib.hid (heap_alloc_new w7 (.cells #[.slice b1 b2 b3, .slice b4 b5 b6, .bool C.loop.nu] 58))
        have HV8 := Lib.hid (hP.below hb8)
        have HQQ := Lib.hid (show qa < w7.heap.size from lt_heap (hk.heap HA6.out (by decide) (by decide) (by decide)))
        have HQR := Lib.hid (show w.heap.size + 1 < w7.heap.size from lt_heap (HS6.out.go hk hG).br)
        clear hP hG hk hb8 hkk HS6 HX6 HK6 HL6 HA6 HP6 HLP k0 k1 k2 k3 k4 k5 k6 k7
        go_upto_region 7 with fail
        obtain ⟨w8, hw⟩ : ∃ x, x = w7.alloc (.cells #[.slice b1 b2 b3, .slice b4 b5 b6, .bool C.loop.nu] 58) := ⟨_, rfl⟩
        obtain ⟨qc, hq⟩ : ∃ q, q = w7.heap.size := ⟨_, rfl⟩
        rw [← hw] at HS8 HX8 HA8 HP8 HV8
        rw [← hw, ← hq] at HC8
        rw [← hq] at HQQ HQR
        rw [← hw, ← hq]
        clear hw hq
        obtain ⟨u, hu⟩ : ∃ u, u = C.loop.nu := ⟨_, rfl⟩
        have HUU := Lib.hid hu
        obtain ⟨D, hD⟩ : ∃ D, D = C.loop.orN (decide (lo = 0)) := ⟨_, rfl⟩
        have HDN : Hid (D.nu = (u || decide (lo = 0))) := Lib.hid (by rw [hD, hu]; rfl)
        have HDO : Hid D.Ok := Lib.hid (by rw [hD]; exact HPO.out.loop.orN _)
        have HDG : Hid ((G.add (C.pows M)).add C.loop = (G.add (C.pows M)).add D) := Lib.hid (by rw [hD]; rfl)
        rw [← hD] at HREP
        have HDV : Hid (∀ (W : World) (b : Bool), (u || decide (lo = 0)) = b → PtV W (.agg #[.slice b1 b2 b3, .slice b4 b5 b6, .bool C.loop.nu]) (C.loop.part (G.n + (C.pows M).n)) → PtV W (.agg #[.slice b1 b2 b3, .slice b4 b5 b6, .bool b]) (D.part (G.n + (C.pows M).n))) := Lib.hid fun W b hb hP => by
          obtain ⟨lf, ll, i1, s1, i2, s2⟩ := hP.lists
          have hn : (D.part (G.n + (C.pows M).n)).nu = b := HDN.out.trans hb
          exact ⟨_, _, lf, ll, by rw [hn], i1, by rw [hD]; exact s1, i2, by rw [hD]; exact s2⟩
        rw [← hu] at HC8
        clear hu hD
        have HEN : Hid (∀ b : Bool, (u || decide (lo = 0)) = b → AcS B w p ((G.add (C.pows M)).add D) (w.heap.size + 1) (w8.setCell ⟨qc, 2, none⟩ (.bool b)) ∧ (w8.setCell ⟨qc, 2, none⟩ (.bool b)).heap[qc]? = some (.cells #[.slice b1 b2 b3, .slice b4 b5 b6, .bool b] 58 (0, 0)) ∧ (w8.setCell ⟨qc, 2, none⟩ (.bool b)).heap[qa]? = some (.cells #[.slice a1 a2 a3, .slice a4 a5 a6, .bool (C.pows M).nu] 58 (0, 0)) ∧ PtV (w8.setCell ⟨qc, 2, none⟩ (.bool b)) (.agg #[.slice b1 b2 b3, .slice b4 b5 b6, .bool b]) (D.part (G.n + (C.pows M).n)) ∧ PtV (w8.setCell ⟨qc, 2, none⟩ (.bool b)) (.agg #[.slice a1 a2 a3, .slice a4 a5 a6, .bool (C.pows M).nu]) ((C.pows M).part G.n)) := Lib.hid fun b hb => by
          have hg := grown_set w8 qc 2 (.bool b)
          have hk : ∀ k, some qc = some k → ∃ cs e', w8.heap[k]? = some (.cells cs e' (0, 0)) ∧ e' ≠ 3 := fun k hk => by cases hk; exact ⟨_, _, HC8.out, by decide⟩
          refine ⟨?_, set_2 (.bool b) HC8.out, (hg.block qa (lt_heap HA8.out) fun e => by have := Option.some.inj e; have := HQQ.out; omega).trans HA8.out, HDV.out _ b hb (HV8.out.kept hg hk), HP8.out.kept hg hk⟩
          rw [← HDG.out]
          exact HS8.out.grow hg HC8.out (by have := HQR.out; omega) (by have := HQR.out; omega)
        obtain ⟨Q, hQ⟩ : ∃ Q, Q = C.pows M := ⟨_, rfl⟩
        have HQO : Hid Q.Ok := Lib.hid (by rw [hQ]; exact HPO.out.pows M)
        rw [← hQ] at HEN HREP HA8 HN2
        have HDn : Hid (D.n = C.n) := Lib.hid (by have := congrArg Gs.n HDG.out; have e1 : ((G.add (C.pows M)).add C.loop).n = (G.add (C.pows M)).n + C.n := rfl; have e2 : ((G.add (C.pows M)).add D).n = (G.add (C.pows M)).n + D.n := rfl; omega)
        clear hQ HP8 HV8 HDV HDG
        obtain ⟨x0, x1, x2, x3, x4, x5, x6, x7⟩ := cell8 HX8.out
        obtain ⟨z0, z1, z2⟩ := cell3 HC8.out
        have zf0 := frozen4 HC8.out 0
        have zf1 := frozen4 HC8.out 1
        have zf2 := frozen4 HC8.out 2
        have h0 : ¬ lo = 0 := by omega
        have h01 : (lo == 0) = false := by simp [h0]
        have h02 : decide (lo = 0) = false := by simp [h0]
        cases u
        · obtain ⟨hs9, hc9, ha9, hd9, hv9⟩ := HEN.out false (by simp [h0])
          have HS9 := Lib.hid hs9
          have HC9 := Lib.hid hc9
          have HA9 := Lib.hid ha9
          have HD9 := Lib.hid hd9
          have HV9 := Lib.hid hv9
          clear hs9 hc9 ha9 hd9 hv9
          go_upto_region 8 with fail
          obtain ⟨w9, hw⟩ : ∃ x, x = w8.setCell ⟨qc, 2, none⟩ (.bool false) := ⟨_, rfl⟩
          rw [← hw] at HS9 HC9 HA9 HD9 HV9
          rw [← hw]
          clear hw x0 x1 x2 x3 x4 x5 x6 x7 z0 z1 z2 zf0 zf1 zf2
          obtain ⟨z0, z1, z2⟩ := cell3 HC9.out
          obtain ⟨y0, y1, y2⟩ := cell3 HA9.out
          have HJN := Lib.hid (joined54_any B p ((G.add Q).add D) (Q.part G.n) (D.part (G.n + Q.n)) _ _ w9 HS9.out.bl (by have := HN2.out; have := HDn.out; show G.n + Q.n + D.n ≤ 1000; omega) HV9.out HD9.out (Pl.part_le HQO.out G.n _ (Nat.le_add_right _ _)) (Pl.part_le HDO.out (G.n + Q.n) _ (Nat.le_refl _)))
          go_wp2_with fail
          refine HJN.out.mono ?_
          rintro e w10 ⟨v, rfl, hP, hG, hk⟩
          rw [Gs.cat_link G HQO.out] at hG
          rw [Pl.part_cat HQO.out] at hP
          obtain ⟨d1, d2, d3, d4, d5, d6, rfl⟩ := hP.forms
          have HS10 := Lib.hid (HS9.out.go hk hG)
          have HF := Lib.hid (HS10.out.fin (P := Q.cat D) rfl hP rfl)
          have hbr := HS10.out.br
          clear z0 z1 z2 y0 y1 y2
          obtain ⟨l0, l1, l2⟩ := cell3 hbr
          have m0 := frozen4 hbr 0
          have m1 := frozen4 hbr 1
          have m2 := frozen4 hbr 2
          clear hbr hP hG hk
          go_wp2
          exact bodyPost_ret (ret3c Try.results40 rfl HF.out.1) rfl (by first | (rw [HREP.out]; exact HF.out.2) | (rw [← HCC.out, HREP.out]; exact HF.out.2))
        · obtain ⟨hs9, hc9, ha9, hd9, hv9⟩ := HEN.out true (by simp [h0])
          have HS9 := Lib.hid hs9
          have HC9 := Lib.hid hc9
          have HA9 := Lib.hid ha9
          have HD9 := Lib.hid hd9
          have HV9 := Lib.hid hv9
          clear hs9 hc9 ha9 hd9 hv9
          go_upto_region 8 with fail
          obtain ⟨w9, hw⟩ : ∃ x, x = w8.setCell ⟨qc, 2, none⟩ (.bool true) := ⟨_, rfl⟩
          rw [← hw] at HS9 HC9 HA9 HD9 HV9
          rw [← hw]
          clear hw x0 x1 x2 x3 x4 x5 x6 x7 z0 z1 z2 zf0 zf1 zf2
          obtain ⟨z0, z1, z2⟩ := cell3 HC9.out
          obtain ⟨y0, y1, y2⟩ := cell3 HA9.out
          have HJN := Lib.hid (joined54_any B p ((G.add Q).add D) (Q.part G.n) (D.part (G.n + Q.n)) _ _ w9 HS9.out.bl (by have := HN2.out; have := HDn.out; show G.n + Q.n + D.n ≤ 1000; omega) HV9.out HD9.out (Pl.part_le HQO.out G.n _ (Nat.le_add_right _ _)) (Pl.part_le HDO.out (G.n + Q.n) _ (Nat.le_refl _)))
          go_wp2_with fail
          refine HJN.out.mono ?_
          rintro e w10 ⟨v, rfl, hP, hG, hk⟩
          rw [Gs.cat_link G HQO.out] at hG
          rw [Pl.part_cat HQO.out] at hP
          obtain ⟨d1, d2, d3, d4, d5, d6, rfl⟩ := hP.forms
          have HS10 := Lib.hid (HS9.out.go hk hG)
          have HF := Lib.hid (HS10.out.fin (P := Q.cat D) rfl hP rfl)
          have hbr := HS10.out.br
          clear z0 z1 z2 y0 y1 y2
          obtain ⟨l0, l1, l2⟩ := cell3 hbr
          have m0 := frozen4 hbr 0
          have m1 := frozen4 hbr 1
          have m2 := frozen4 hbr 2
          clear hbr hP hG hk
          go_wp2
          exact bodyPost_ret (ret3c Try.results40 rfl HF.out.1) rfl (by first | (rw [HREP.out]; exact HF.out.2) | (rw [← HCC.out, HREP.out]; exact HF.out.2))
    · have hpos : 0 ≤ hi := by omega
      have hlh : lo ≤ hi := by omega
      have HREP := Lib.hid (show C.rep lo hi = (C.pows lo.toNat).cat (C.opts (hi - lo).toNat) by unfold Pl.rep; rw [if_neg (by omega)])
      have HN2 := Lib.hid (show G.n + (C.pows lo.toNat).n + (C.opts (hi - lo).toNat).n ≤ 1000 by have := HN.out; rw [HREP.out] at this; have e : ((C.pows lo.toNat).cat (C.opts (hi - lo).toNat)).n = (C.pows lo.toNat).n + (C.opts (hi - lo).toNat).n := rfl; omega)
      have HCP : Hid (Calls Try.prog 56 #[.pointer (some ⟨p, 0, none⟩), nodeV (kid 0).k (kid 0).s (kid 0).lo (kid 0).hi (.slice (kid 0).a (kid 0).n (kid 0).cap), .int .i64 lo] w4 (AddE B w4 p G (C.pows lo.toNat))) := Lib.hid (by
        have := addCopies_any B p G (kid 0) lo.toNat w4 (by omega) HAD.out HS4.out.bl (Nat.le_trans HB.out HS4.out.kt.size) HL4.out (by rw [← HCC.out]; have := HN2.out; omega)
        rw [← HCC.out, show ((lo.toNat : Nat) : Int) = lo by omega] at this
        exact this)
      obtain ⟨Q, hQ⟩ : ∃ Q, Q = C.pows lo.toNat := ⟨_, rfl⟩
      have HQO : Hid Q.Ok := Lib.hid (by rw [hQ]; exact HPO.out.pows _)
      rw [← hQ] at HCP HREP HN2
      obtain ⟨O, hO⟩ : ∃ O, O = C.opts (hi - lo).toNat := ⟨_, rfl⟩
      have HOO : Hid O.Ok := Lib.hid (by rw [hO]; exact HPO.out.opts _)
      rw [← hO] at HREP HN2
      have HOE := Lib.hid hO
      clear hQ hO
      go_wp2_with fail
      refine HCP.out.mono ?_
      rintro e w5 ⟨v, rfl, hP, hG, hk⟩
      obtain ⟨a1, a2, a3, a4, a5, a6, rfl⟩ := hP.forms
      have hb6 := alloc_below w5 (.cells #[.slice a1 a2 a3, .slice a4 a5 a6, .bool Q.nu] 58)
      have hkk := hk.trans (KT.of hb6)
      have HS6 := Lib.hid ((HS4.out.go hk hG).below hb6)
      have HX6 := Lib.hid (hkk.heap HX4.out (by decide) (by decide) (by decide))
      have HK6 := Lib.hid (hkk.heap HK4.out (by decide) (by decide) (by decide))
      have HL6 := Lib.hid (HL4.out.below (hkk.below (Nat.le_trans HB.out HS4.out.kt.size)))
      have HA6 := Lib.hid (heap_alloc_new w5 (.cells #[.slice a1 a2 a3, .slice a4 a5 a6, .bool Q.nu] 58))
      have HP6 := Lib.hid (hP.below hb6)
      have HQQ := Lib.hid (show w.heap.size + 1 < w5.heap.size ∧ qk < w5.heap.size from ⟨lt_heap (HS4.out.go hk hG).br, lt_heap (hk.heap HK4.out (by decide) (by decide) (by decide))⟩)
      clear hP hG hk hb6 hkk HS4 HX4 HK4 HL4 HCP x0 x1 x2 x3 x4 x5 x6 x7 k0 k1 k2 k3 k4 k5 k6 k7 l0 l1 l2 m0 m1 m2
      go_upto_region 10 with fail
      obtain ⟨w6, hw⟩ : ∃ x, x = w5.alloc (.cells #[.slice a1 a2 a3, .slice a4 a5 a6, .bool Q.nu] 58) := ⟨_, rfl⟩
      obtain ⟨qa, hq⟩ : ∃ q, q = w5.heap.size := ⟨_, rfl⟩
      rw [← hw] at HS6 HX6 HK6 HL6 HP6
      rw [← hw, ← hq] at HA6
      rw [← hq] at HQQ
      rw [← hw, ← hq]
      clear hw hq
      have HD : Hid (Below w6.heap.size w6 w6.drew) := Lib.hid (Below.refl _ _).drew
      have HB0 : KT B w6 w6.drew := KT.of HD.out
      have HWR : Hid (IntKind.i64.wrap (hi - lo) = hi - lo) := Lib.hid (IntWalk.i64_in _ (by omega))
      have HOP : Hid (Calls Try.prog 58 #[.pointer (some ⟨p, 0, none⟩), nodeV (kid 0).k (kid 0).s (kid 0).lo (kid 0).hi (.slice (kid 0).a (kid 0).n (kid 0).cap), .int .i64 (hi - lo)] w6.drew (AddE B w6.drew p (G.add Q) O)) := Lib.hid (by
        have := addOptions_any B p (kid 0) HAD.out (hi - lo).toNat (G.add Q) w6.drew (by omega) (HS6.out.bl.below HD.out) (Nat.le_trans HB.out (Nat.le_trans HS6.out.kt.size HD.out.size)) (HL6.out.below (HD.out.mono (Nat.le_trans HB.out HS6.out.kt.size))) (by rw [← HCC.out, ← HOE.out]; exact HN2.out)
        rw [← HCC.out, ← HOE.out, show (((hi - lo).toNat : Nat) : Int) = hi - lo by omega] at this
        exact this)
      have HKP : Hid (∀ W, KT B w6 W → W.cell? ⟨w.heap.size, 5, none⟩ = some (.int .i64 lo) ∧ W.cell? ⟨w.heap.size, 6, none⟩ = some (.int .i64 hi) ∧ W.cell? ⟨qk, 0, none⟩ = some (.int .i64 (kid 0).k) ∧ W.cell? ⟨qk, 1, none⟩ = some (.int .u64 ((kid 0).s 0)) ∧ W.cell? ⟨qk, 2, none⟩ = some (.int .u64 ((kid 0).s 1)) ∧ W.cell? ⟨qk, 3, none⟩ = some (.int .u64 ((kid 0).s 2)) ∧ W.cell? ⟨qk, 4, none⟩ = some (.int .u64 ((kid 0).s 3)) ∧ W.cell? ⟨qk, 5, none⟩ = some (.int .i64 (kid 0).lo) ∧ W.cell? ⟨qk, 6, none⟩ = some (.int .i64 (kid 0).hi) ∧ W.cell? ⟨qk, 7, none⟩ = some (.slice (kid 0).a (kid 0).n (kid 0).cap) ∧ W.cell? ⟨qa, 0, none⟩ = some (.slice a1 a2 a3) ∧ W.cell? ⟨qa, 1, none⟩ = some (.slice a4 a5 a6) ∧ W.cell? ⟨qa, 2, none⟩ = some (.bool Q.nu)) := Lib.hid fun W h => by
        obtain ⟨_, _, _, _, _, y5, y6, _⟩ := cell8 (h.heap HX6.out (by decide) (by decide) (by decide))
        obtain ⟨k0, k1, k2, k3, k4, k5, k6, k7⟩ := cell8 (h.heap HK6.out (by decide) (by decide) (by decide))
        obtain ⟨j0, j1, j2⟩ := cell3 (h.heap HA6.out (by decide) (by decide) (by decide))
        exact ⟨y5, y6, k0, k1, k2, k3, k4, k5, k6, k7, j0, j1, j2⟩
      have HKS : Hid (∀ W, KT B w6 W → ∀ x y z : Value, (put3 W (w.heap.size + 1) x y z).cell? ⟨w.heap.size, 5, none⟩ = some (.int .i64 lo) ∧ (put3 W (w.heap.size + 1) x y z).cell? ⟨w.heap.size, 6, none⟩ = some (.int .i64 hi) ∧ (put3 W (w.heap.size + 1) x y z).cell? ⟨qk, 0, none⟩ = some (.int .i64 (kid 0).k) ∧ (put3 W (w.heap.size + 1) x y z).cell? ⟨qk, 1, none⟩ = some (.int .u64 ((kid 0).s 0)) ∧ (put3 W (w.heap.size + 1) x y z).cell? ⟨qk, 2, none⟩ = some (.int .u64 ((kid 0).s 1)) ∧ (put3 W (w.heap.size + 1) x y z).cell? ⟨qk, 3, none⟩ = some (.int .u64 ((kid 0).s 2)) ∧ (put3 W (w.heap.size + 1) x y z).cell? ⟨qk, 4, none⟩ = some (.int .u64 ((kid 0).s 3)) ∧ (put3 W (w.heap.size + 1) x y z).cell? ⟨qk, 5, none⟩ = some (.int .i64 (kid 0).lo) ∧ (put3 W (w.heap.size + 1) x y z).cell? ⟨qk, 6, none⟩ = some (.int .i64 (kid 0).hi) ∧ (put3 W (w.heap.size + 1) x y z).cell? ⟨qk, 7, none⟩ = some (.slice (kid 0).a (kid 0).n (kid 0).cap) ∧ (put3 W (w.heap.size + 1) x y z).cell? ⟨qa, 0, none⟩ = some (.slice a1 a2 a3) ∧ (put3 W (w.heap.size + 1) x y z).cell? ⟨qa, 1, none⟩ = some (.slice a4 a5 a6) ∧ (put3 W (w.heap.size + 1) x y z).cell? ⟨qa, 2, none⟩ = some (.bool Q.nu)) := Lib.hid fun W h x y z => by
        have hG := put3_grown W (w.heap.size + 1) x y z
        have e0 := h.heap HX6.out (by decide) (by decide) (by decide)
        have e1 := h.heap HK6.out (by decide) (by decide) (by decide)
        have e2 := h.heap HA6.out (by decide) (by decide) (by decide)
        obtain ⟨_, _, _, _, _, y5, y6, _⟩ := cell8 ((hG.block _ (lt_heap e0) fun e => by have := Option.some.inj e; omega).trans e0)
        obtain ⟨k0, k1, k2, k3, k4, k5, k6, k7⟩ := cell8 ((hG.block _ (lt_heap e1) fun e => by have := Option.some.inj e; have := HQK.out; omega).trans e1)
        obtain ⟨j0, j1, j2⟩ := cell3 ((hG.block _ (lt_heap e2) fun e => by have := Option.some.inj e; have := HQQ.out; omega).trans e2)
        exact ⟨y5, y6, k0, k1, k2, k3, k4, k5, k6, k7, j0, j1, j2⟩
      go_wp2_with fail
      refine wp_region_held_drew (S := fun w' => w'.cell? ⟨w.heap.size, 5, none⟩ = some (.int .i64 lo) ∧ w'.cell? ⟨w.heap.size, 6, none⟩ = some (.int .i64 hi) ∧ w'.cell? ⟨qk, 0, none⟩ = some (.int .i64 (kid 0).k) ∧ w'.cell? ⟨qk, 1, none⟩ = some (.int .u64 ((kid 0).s 0)) ∧ w'.cell? ⟨qk, 2, none⟩ = some (.int .u64 ((kid 0).s 1)) ∧ w'.cell? ⟨qk, 3, none⟩ = some (.int .u64 ((kid 0).s 2)) ∧ w'.cell? ⟨qk, 4, none⟩ = some (.int .u64 ((kid 0).s 3)) ∧ w'.cell? ⟨qk, 5, none⟩ = some (.int .i64 (kid 0).lo) ∧ w'.cell? ⟨qk, 6, none⟩ = some (.int .i64 (kid 0).hi) ∧ w'.cell? ⟨qk, 7, none⟩ = some (.slice (kid 0).a (kid 0).n (kid 0).cap) ∧ w'.cell? ⟨qa, 0, none⟩ = some (.slice a1 a2 a3) ∧ w'.cell? ⟨qa, 1, none⟩ = some (.slice a4 a5 a6) ∧ w'.cell? ⟨qa, 2, none⟩ = some (.bool Q.nu)) (by kernel_rfl) ?_ (fun hHeld => ?_)
      · exact HKP.out _ HB0
      refine wpAnyH_take (i := 0) (oi := { dst := some 47, op := Op.move (Operand.tmp 0), type := 68, pos := "builder.go:80", after := #[], guard := none }) (v := ?_) rfl (by kernel_rfl) (by kernel_rfl) (by kernel_rfl) (fun _ _ _ h => h) (Or.inl ⟨by rfl, ?_⟩) (by assumption) ?_
      rotate_left
      · (intro w hSw; (try dsimp only at hSw); go_simp; try with_reducible rfl)
      try simp only [Act.put, List.setIfInBounds_toArray, List.set_cons_zero, List.set_cons_succ]
      refine wpAnyH_take (i := 1) (oi := { dst := some 48, op := Op.load 58 (Operand.tmp 8), type := 58, pos := "builder.go:80", after := #[], guard := none }) (v := ?_) rfl (by kernel_rfl) (by kernel_rfl) (by kernel_rfl) (fun _ _ _ h => h) (Or.inl ⟨by rfl, ?_⟩) (by assumption) ?_
      rotate_left
      · (intro w hSw; (try dsimp only at hSw); go_simp; try with_reducible rfl)
      try simp only [Act.put, List.setIfInBounds_toArray, List.set_cons_zero, List.set_cons_succ]
      refine wpAnyH_take (i := 2) (oi := { dst := some 49, op := Op.move (Operand.tmp 0), type := 68, pos := "builder.go:80", after := #[], guard := none }) (v := ?_) rfl (by kernel_rfl) (by kernel_rfl) (by kernel_rfl) (fun _ _ _ h => h) (Or.inl ⟨by rfl, ?_⟩) (by assumption) ?_
      rotate_left
      · (intro w hSw; (try dsimp only at hSw); go_simp; try with_reducible rfl)
      try simp only [Act.put, List.setIfInBounds_toArray, List.set_cons_zero, List.set_cons_succ]
      refine wpAnyH_take (i := 3) (oi := { dst := some 50, op := Op.load 27 (Operand.tmp 5), type := 27, pos := "builder.go:80", after := #[], guard := none }) (v := ?_) rfl (by kernel_rfl) (by kernel_rfl) (by kernel_rfl) (fun _ _ _ h => h) (Or.inl ⟨by rfl, ?_⟩) (by assumption) ?_
      rotate_left
      · (intro w hSw; (try dsimp only at hSw); go_simp; try with_reducible rfl)
      try simp only [Act.put, List.setIfInBounds_toArray, List.set_cons_zero, List.set_cons_succ]
      refine wpAnyH_take (i := 4) (oi := { dst := some 51, op := Op.fieldAddr 27 (Operand.tmp 3) 3, type := 0, pos := "builder.go:80", after := #[], guard := none }) (v := ?_) rfl (by kernel_rfl) (by kernel_rfl) (by kernel_rfl) (fun _ _ _ h => h) (Or.inl ⟨by rfl, ?_⟩) (by assumption) ?_
      rotate_left
      · (intro w hSw; (try dsimp only at hSw); go_simp; try with_reducible rfl)
      try simp only [Act.put, List.setIfInBounds_toArray, List.set_cons_zero, List.set_cons_succ]
      refine wpAnyH_take (i := 5) (oi := { dst := some 52, op := Op.load 3 (Operand.tmp 51), type := 3, pos := "builder.go:80", after := #[{ on := 4, ground := Ground.data }], guard := none }) (v := ?_) rfl (by kernel_rfl) (by kernel_rfl) (by kernel_rfl) (fun _ _ _ h => h) (Or.inl ⟨by rfl, ?_⟩) (by assumption) ?_
      rotate_left
      · (intro w hSw; (try dsimp only at hSw); go_simp; try with_reducible rfl)
      try simp only [Act.put, List.setIfInBounds_toArray, List.set_cons_zero, List.set_cons_succ]
      refine wpAnyH_take (i := 6) (oi := { dst := some 53, op := Op.fieldAddr 27 (Operand.tmp 3) 2, type := 0, pos := "builder.go:80", after := #[], guard := none }) (v := ?_) rfl (by kernel_rfl) (by kernel_rfl) (by kernel_rfl) (fun _ _ _ h => h) (Or.inl ⟨by rfl, ?_⟩) (by assumption) ?_
      rotate_left
      · (intro w hSw; (try dsimp only at hSw); go_simp; try with_reducible rfl)
      try simp only [Act.put, List.setIfInBounds_toArray, List.set_cons_zero, List.set_cons_succ]
      refine wpAnyH_take (i := 7) (oi := { dst := some 54, op := Op.load 3 (Operand.tmp 53), type := 3, pos := "builder.go:80", after := #[{ on := 6, ground := Ground.data }], guard := none }) (v := ?_) rfl (by kernel_rfl) (by kernel_rfl) (by kernel_rfl) (fun _ _ _ h => h) (Or.inl ⟨by rfl, ?_⟩) (by assumption) ?_
      rotate_left
      · (intro w hSw; (try dsimp only at hSw); go_simp; try with_reducible rfl)
      try simp only [Act.put, List.setIfInBounds_toArray, List.set_cons_zero, List.set_cons_succ]
      refine wpAnyH_take (i := 8) (oi := { dst := some 55, op := Op.binOp BinOp.sub 3 (Operand.tmp 52) (Operand.tmp 54) 3, type := 3, pos := "builder.go:80", after := #[{ on := 5, ground := Ground.data }, { on := 7, ground := Ground.data }], guard := none }) (v := ?_) rfl (by kernel_rfl) (by kernel_rfl) (by kernel_rfl) (fun _ _ _ h => h) (Or.inl ⟨by rfl, ?_⟩) (by assumption) ?_
      rotate_left
      · (intro w hSw; (try dsimp only at hSw); go_simp; try with_reducible rfl)
      try simp only [Act.put, List.setIfInBounds_toArray, List.set_cons_zero, List.set_cons_succ]
      refine wpAnyH_ready (rs := [9]) (by kernel_rfl) (by simp) ?_
      refine AllReadyH.cons (o := { dst := some 56, op := Op.call { callee := Callee.value (Operand.func 58), args := #[Operand.tmp 49, Operand.tmp 50, Operand.tmp 55], argTypes := #[68, 27, 3] }, type := 58, pos := "builder.go:80", after := #[{ on := 2, ground := Ground.data }, { on := 3, ground := Ground.data }, { on := 8, ground := Ground.data }], guard := none }) rfl (fun K hK => ?_) AllReadyH.nil
      go_simp
      try rw [HWR.out]
      refine HOP.out.mono ?_
      rintro e w7 ⟨v, rfl, hP7, hG7, hk7⟩
      obtain ⟨b1, b2, b3, b4, b5, b6, rfl⟩ := hP7.forms
      have HB7 : KT B w6 w7 := (KT.of HD.out).trans hk7
      have HG7 := Lib.hid hG7
      have HP7 := Lib.hid hP7
      clear hP7 hG7 hk7
      go_wp2_with fail
      refine hK.out _ _ ?_ (fun hHeld => ?_)
      · exact HKP.out _ HB7
      clear hK K
      try simp only [Act.put, List.setIfInBounds_toArray, List.set_cons_zero, List.set_cons_succ]
      refine wpAnyH_ready (rs := [10]) (by kernel_rfl) (by simp) ?_
      refine AllReadyH.cons (o := { dst := some 57, op := Op.call { callee := Callee.value (Operand.func 54), args := #[Operand.tmp 47, Operand.tmp 48, Operand.tmp 56], argTypes := #[68, 58, 58] }, type := 58, pos := "builder.go:80", after := #[{ on := 0, ground := Ground.data }, { on := 1, ground := Ground.data }, { on := 9, ground := Ground.data }, { on := 9, ground := Ground.chain }], guard := none }) rfl (fun K hK => ?_) AllReadyH.nil
      go_simp
      refine (joined54_any B p ((G.add Q).add O) (Q.part G.n) (O.part (G.n + Q.n)) _ _ w7 HG7.out (by have := HN2.out; exact this) (HP6.out.kt HB7) HP7.out (Pl.part_le HQO.out G.n _ (Nat.le_add_right _ _)) (Pl.part_le HOO.out (G.n + Q.n) _ (Nat.le_refl _))).mono ?_
      rintro e w8 ⟨v, rfl, hP8, hG8, hk8⟩
      rw [Gs.cat_link G HQO.out] at hG8
      rw [Pl.part_cat HQO.out] at hP8
      obtain ⟨d1, d2, d3, d4, d5, d6, rfl⟩ := hP8.forms
      have HB8 : KT B w6 w8 := HB7.trans hk8
      have HS8 := Lib.hid (HS6.out.go HB8 hG8)
      have HF := Lib.hid (HS8.out.fin (P := Q.cat O) rfl hP8 rfl)
      have hbr := HS8.out.br
      obtain ⟨l0, l1, l2⟩ := cell3 hbr
      have m0 := frozen4 hbr 0
      have m1 := frozen4 hbr 1
      have m2 := frozen4 hbr 2
      clear hbr hP8 hG8 hk8
      go_wp2_with fail
      refine hK.out _ _ ?_ (fun hHeld => ?_)
      · exact HKP.out _ HB8
      clear hK K
      try simp only [Act.put, List.setIfInBounds_toArray, List.set_cons_zero, List.set_cons_succ]
      refine wpAnyH_ready (rs := [11]) (by kernel_rfl) (by simp) ?_
      refine AllReadyH.cons (o := { dst := none, op := Op.store 58 (Operand.tmp 4) (Operand.tmp 57), type := 0, pos := "builder.go:80", after := #[{ on := 10, ground := Ground.data }, { on := 10, ground := Ground.chain }, { on := 0, ground := Ground.phase }, { on := 1, ground := Ground.phase }, { on := 2, ground := Ground.phase }, { on := 3, ground := Ground.phase }, { on := 4, ground := Ground.phase }, { on := 5, ground := Ground.phase }, { on := 6, ground := Ground.phase }, { on := 7, ground := Ground.phase }, { on := 8, ground := Ground.phase }, { on := 9, ground := Ground.phase }, { on := 10, ground := Ground.phase }], guard := none }) rfl (fun K hK => ?_) AllReadyH.nil
      go_simp
      refine hK.out _ _ ?_ (fun hHeld => ?_)
      · exact HKS.out _ HB8 _ _ _
      clear hK K
      try simp only [Act.put, List.setIfInBounds_toArray, List.set_cons_zero, List.set_cons_succ]
      refine wpAnyH_done (by kernel_rfl) ?_ _
      go_wp2
      exact bodyPost_ret (ret3c Try.results40 rfl HF.out.1) rfl (by first | (rw [HREP.out]; exact HF.out.2) | (rw [← HCC.out, HREP.out]; exact HF.out.2))
end Go.Proofs.Ytbahadgcmaabcaa
