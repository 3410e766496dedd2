/- The document's of: what is there some times. -/
import Derived.Test.YtbahadgcmaabcaaJx
import Derived.Test.YtbahadgcmaabcaaJw
namespace Go.Proofs.Ytbahadgcmaabcaa
open Go.RowKit Go
set_option maxRecDepth 100000 in
set_option maxHeartbeats 4000000 in
theorem of_5 (s : Nat → Int) (lo hi : Int) (a : Option Addr) (n cap : Nat) (kid : Nat → Tr) (w : World) (hcn : countsB lo hi = true) (hn0 : 0 < n) (hL : Lives w w.heap.size (.node 5 s lo hi a n cap kid)) (ih : ∀ W, Lives W W.heap.size (kid 0) → Calls Try.prog 30 #[(kid 0).val] W (PlE W (plT (kid 0)))) (hn : ((plT (kid 0)).rep lo hi).n ≤ 900) : Calls Try.prog 30 #[nodeV 5 s lo hi (.slice a n cap)] w (PlE w ((plT (kid 0)).rep lo hi)) := by
  obtain ⟨K, hK⟩ : ∃ x, x = plT (kid 0) := ⟨_, rfl⟩
  rw [← hK] at ih hn ⊢
  clear hK
  have HI0 := Lib.hid ih
  have HRL := Lib.hid (rep_le hcn hn)
  have hcc := hcn
  simp only [countsB, Bool.and_eq_true, Bool.or_eq_true, decide_eq_true_eq] at hcc
  have hlo0 : 0 ≤ lo := hcc.1
  have hlo1 : lo ≤ 20 := hcc.2.1
  have hhi : hi = -1 ∨ (max lo 1 ≤ hi ∧ hi ≤ 20) := hcc.2.2
  have HRM : Hid (repM lo hi = (max (max lo hi) 1).toNat) := Lib.hid rfl
  clear hcc
  obtain ⟨_, hcap, hm, hat, hlv⟩ := hL
  have HLV := Lib.hid hlv
  unfold maxLen at hm
  obtain ⟨g, off, rfl, hg, hc⟩ := hat hn0
  have hc0 : At8 w g off (kid 0) := by simpa using hc 0 hn0
  have HC0 := Lib.hid (hc0.below hg (alloc2_below w (.cells (row8 5 s lo hi (.slice (some ⟨g, off, none⟩) n cap)) 27) (.cells pl0 40)))
  obtain ⟨c0, c1, c2, c3, c4, c5, c6, c7⟩ := HC0.out
  have HS0 := Lib.hid (OfS.start w (row8 5 s lo hi (.slice (some ⟨g, off, none⟩) n cap)))
  have hn0' : (0 : Int) < (n : Int) := by omega
  have HE := Lib.hid fun W => empty_any9 W
  clear hat hlv ih hn hc hc0 hcn
  go_enter Try.func30, Try.ntmps30
  go_wp2_with fail
  refine (HI0.out _ ((HLV.out 0 hn0).now (alloc2_below _ _ _))).mono ?_
  rintro e w2 ⟨v, rfl, hP, hb⟩
  obtain ⟨a1, a5, a2, a6, a7, a3, a8, a9, a4, a0, rfl⟩ := hP.forms
  have HS2 := Lib.hid ((HS0.out.below hb).below (alloc_below w2 (.cells (pl5 (.slice a1 K.n a5) (.slice a2 a6 a7) (.slice a3 a8 a9) (.slice a4 K.n a0) K.nu) 40)))
  have H72 := Lib.hid (PBx.new hP)
  have HL7 := Lib.hid (show w.heap.size + 2 ≤ w2.heap.size by have := hb.size; simpa using this)
  clear hP c0 c1 c2 c3 c4 c5 c6 c7 HC0 HS0 hb
  go_wp2_with fail
  refine (HE.out _).mono ?_
  rintro e w3 ⟨v, rfl, hP, hb⟩
  obtain ⟨b1, b5, b2, b6, b7, b3, b8, b9, b4, b0, rfl⟩ := hP.forms
  have HS5 := Lib.hid ((HS2.out.below hb).below (alloc_below w3 (.cells (pl5 (.slice b1 (Pl.nil true).n b5) (.slice b2 b6 b7) (.slice b3 b8 b9) (.slice b4 (Pl.nil true).n b0) (Pl.nil true).nu) 40)))
  have H75 := Lib.hid ((H72.out.below hb).below (alloc_below w3 (.cells (pl5 (.slice b1 (Pl.nil true).n b5) (.slice b2 b6 b7) (.slice b3 b8 b9) (.slice b4 (Pl.nil true).n b0) (Pl.nil true).nu) 40)))
  have H85 := Lib.hid (PBx.new hP)
  have HL8 := Lib.hid (show w2.heap.size < w3.heap.size by have := hb.size; simp at this; omega)
  clear hP HS2 H72 hb
  go_upto_region 21 with fail
  obtain ⟨w5, hw5⟩ : ∃ x, x = w3.alloc (.cells (pl5 (.slice b1 (Pl.nil true).n b5) (.slice b2 b6 b7) (.slice b3 b8 b9) (.slice b4 (Pl.nil true).n b0) (Pl.nil true).nu) 40) := ⟨_, rfl⟩
  obtain ⟨q, hq⟩ : ∃ q, q = w3.heap.size := ⟨_, rfl⟩
  obtain ⟨p, hp⟩ : ∃ p, p = w2.heap.size := ⟨_, rfl⟩
  rw [← hw5] at HS5
  rw [← hw5, ← hp] at H75
  rw [← hw5, ← hq] at H85
  rw [← hp] at HL7
  rw [← hp, ← hq] at HL8
  rw [← hw5, ← hq, ← hp]
  clear hw5 hq hp
  obtain ⟨x0, x1, x2, x3, x4, x5, x6, x7⟩ := cell8 HS5.out.bx
  clear x0 x1 x2 x3 x4 x7
  by_cases hneg : hi < 0
  · go_wp2_with fail
    clear x5 x6
    go_loopw [9] (fun c wr => ∃ i : Nat, 1 ≤ i ∧ (i : Int) ≤ max lo 1 ∧ c = .int .i64 i ∧ Hid (OfS w (row8 5 s lo hi (.slice (some ⟨g, off, none⟩) n cap)) wr) ∧ Hid (PBx wr p K) ∧ Hid (PBx wr q (K.pows (i - 1)))) (fun c _ => (lo - intOf c).toNat)
    case atStart => exact ⟨1, Nat.le_refl _, by omega, rfl, HS5, H75, H85⟩
    case round =>
      obtain ⟨i, hi1, hi2, rfl, HS, H7, H8⟩ := hrel
      clear HS5 H75 H85
      obtain ⟨P, hP⟩ : ∃ P, P = K.pows (i - 1) := ⟨_, rfl⟩
      rw [← hP] at H8
      have HP := Lib.hid hP
      clear hP
      obtain ⟨x0, x1, x2, x3, x4, x5, x6, x7⟩ := cell8 HS.out.bx
      clear x0 x1 x2 x3 x4 x7
      obtain ⟨u1, u5, u2, u6, u7, u3, u8, u9, u4, u0, hqu, hvu⟩ := H7.out
      have HQu := Lib.hid hqu
      have HVu := Lib.hid hvu
      obtain ⟨y0, y1, y2, y3, y4⟩ := cell5 hqu
      clear hqu hvu
      obtain ⟨v1, v5, v2, v6, v7, v3, v8, v9, v4, v0, hqv, hvv⟩ := H8.out
      have HQv := Lib.hid hqv
      have HVv := Lib.hid hvv
      obtain ⟨z0, z1, z2, z3, z4⟩ := cell5 hqv
      clear hqv hvv
      by_cases hlt : (i : Int) < lo
      · have HN9 := Lib.hid (show P.n + K.n ≤ 900 by
          have h1 := HRL.out i (by rw [HRM.out]; omega)
          rw [HP.out, pows_n, ← Nat.succ_mul, show (i - 1).succ = i by omega]; exact h1)
        have HPN := Lib.hid (show K.pows (i + 1 - 1) = P.cat K by rw [HP.out, show i + 1 - 1 = (i - 1) + 1 by omega]; rfl)
        go_wp2_with fail
        refine (cat_any9 P K _ _ wr HVv.out HVu.out HN9.out).mono ?_
        rintro e w6 ⟨v, rfl, hP, hb⟩
        obtain ⟨d1, d5, d2, d6, d7, d3, d8, d9, d4, d0, rfl⟩ := hP.forms
        have hq6 := (hb.block _ (lt_heap HQv.out)).trans HQv.out
        have HN1 := Lib.hid (PBx.set hq6 hP)
        have HN2 := Lib.hid ((HS.out.below hb).put (q := q) (by have := HL7.out; have := HL8.out; omega) (.slice d1 (P.cat K).n d5) (.slice d2 d6 d7) (.slice d3 d8 d9) (.slice d4 (P.cat K).n d0) (.bool (P.cat K).nu))
        have HN3 := Lib.hid ((H7.out.below hb).off hq6 (by have := HL8.out; omega) (.slice d1 (P.cat K).n d5) (.slice d2 d6 d7) (.slice d3 d8 d9) (.slice d4 (P.cat K).n d0) (.bool (P.cat K).nu))
        obtain ⟨oc0, oc1, oc2, oc3, oc4⟩ := cell5 hq6
        have of0 := frozen4 hq6 0
        have of1 := frozen4 hq6 1
        have of2 := frozen4 hq6 2
        have of3 := frozen4 hq6 3
        have of4 := frozen4 hq6 4
        clear hP hb hq6 x5 x6 y0 y1 y2 y3 y4 z0 z1 z2 z3 z4
        go_wp2
        go_roundw
        case rel => exact ⟨i + 1, Nat.le_add_left _ _, by omega, by go_num, HN2, HN3, by rw [HPN.out]; exact HN1⟩
        case measure => simp [intOf]; omega
      · have HEQ := Lib.hid (show P = K.pows (lo - 1).toNat by rw [HP.out, show (lo - 1).toNat = i - 1 by omega])
        have HK9 := Lib.hid (show K.n ≤ 900 by have h1 := HRL.out 1 (by rw [HRM.out]; omega); rwa [Nat.one_mul] at h1)
        have HN9 := Lib.hid (show P.n + K.n ≤ 900 by
          have h1 := HRL.out i (by rw [HRM.out]; omega)
          rw [HP.out, pows_n, ← Nat.succ_mul, show (i - 1).succ = i by omega]; exact h1)
        go_wp2_with fail
        refine (again_any9 K _ wr HVu.out HK9.out).mono ?_
        rintro e w6 ⟨v, rfl, hP, hb⟩
        obtain ⟨d1, d5, d2, d6, d7, d3, d8, d9, d4, d0, rfl⟩ := hP.forms
        have HS7 := Lib.hid ((HS.out.below hb).below (alloc_below w6 (.cells (pl5 (.slice d1 K.loop.n d5) (.slice d2 d6 d7) (.slice d3 d8 d9) (.slice d4 K.loop.n d0) K.loop.nu) 40)))
        have H87 := Lib.hid ((H8.out.below hb).below (alloc_below w6 (.cells (pl5 (.slice d1 K.loop.n d5) (.slice d2 d6 d7) (.slice d3 d8 d9) (.slice d4 K.loop.n d0) K.loop.nu) 40)))
        have H97 := Lib.hid (PBx.new hP)
        have HL9 := Lib.hid (show q < w6.heap.size from Nat.lt_of_lt_of_le (lt_heap HQv.out) hb.size)
        clear hP hb x5 x6 y0 y1 y2 y3 y4 z0 z1 z2 z3 z4 HS H7 H8 HVu HVv HQu HQv
        go_upto_region 27 with fail
        obtain ⟨w7, hw⟩ : ∃ x, x = w6.alloc (.cells (pl5 (.slice d1 K.loop.n d5) (.slice d2 d6 d7) (.slice d3 d8 d9) (.slice d4 K.loop.n d0) K.loop.nu) 40) := ⟨_, rfl⟩
        obtain ⟨r, hr⟩ : ∃ q, q = w6.heap.size := ⟨_, rfl⟩
        rw [← hw] at HS7 H87
        rw [← hw, ← hr] at H97
        rw [← hr] at HL9
        rw [← hw, ← hr]
        clear hw hr
        obtain ⟨x0, x1, x2, x3, x4, x5, x6, x7⟩ := cell8 HS7.out.bx
        clear x0 x1 x2 x3 x4 x7
        by_cases h0 : lo = 0
        · subst h0
          obtain ⟨j1, j5, j2, j6, j7, j3, j8, j9, j4, j0, hqj, hvj⟩ := H97.out
          have HQj := Lib.hid hqj
          have HVj := Lib.hid hvj
          obtain ⟨y0, y1, y2, y3, y4⟩ := cell5 hqj
          clear hqj hvj
          go_wp2_with fail
          refine (maybe_any9 K.loop _ w7 HVj.out).mono ?_
          rintro e w8 ⟨v, rfl, hP, hb⟩
          obtain ⟨M, hM⟩ : ∃ M, M = K.loop.may := ⟨_, rfl⟩
          rw [← hM] at hP
          have HMM := Lib.hid hM
          clear hM
          obtain ⟨k1, k5, k2, k6, k7, k3, k8, k9, k4, k0, rfl⟩ := hP.forms
          have hq8 := (hb.block _ (lt_heap HQj.out)).trans HQj.out
          have HN1 := Lib.hid (PBx.set hq8 hP)
          have HN2 := Lib.hid ((HS7.out.below hb).put (q := r) (by have := HL7.out; have := HL8.out; have := HL9.out; omega) (.slice k1 M.n k5) (.slice k2 k6 k7) (.slice k3 k8 k9) (.slice k4 M.n k0) (.bool M.nu))
          have HN3 := Lib.hid ((H87.out.below hb).off hq8 (by have := HL9.out; omega) (.slice k1 M.n k5) (.slice k2 k6 k7) (.slice k3 k8 k9) (.slice k4 M.n k0) (.bool M.nu))
          obtain ⟨oc0, oc1, oc2, oc3, oc4⟩ := cell5 hq8
          have of0 := frozen4 hq8 0
          have of1 := frozen4 hq8 1
          have of2 := frozen4 hq8 2
          have of3 := frozen4 hq8 3
          have of4 := frozen4 hq8 4
          clear hP hb hq8 x5 x6 y0 y1 y2 y3 y4 HVj HQj HS7 H87 H97
          go_upto_region 29 with fail
          obtain ⟨w9, hw⟩ : ∃ x, x = put5 w8 r (.slice k1 M.n k5) (.slice k2 k6 k7) (.slice k3 k8 k9) (.slice k4 M.n k0) (.bool M.nu) := ⟨_, rfl⟩
          dsimp only [put5] at hw HN1 HN2 HN3
          rw [← hw] at HN1 HN2 HN3 ⊢
          clear hw of0 of1 of2 of3 of4 oc0 oc1 oc2 oc3 oc4
          obtain ⟨v1, v5, v2, v6, v7, v3, v8, v9, v4, v0, hqv, hvv⟩ := HN3.out
          have HQv := Lib.hid hqv
          have HVv := Lib.hid hvv
          obtain ⟨z0, z1, z2, z3, z4⟩ := cell5 hqv
          clear hqv hvv
          obtain ⟨t1, t5, t2, t6, t7, t3, t8, t9, t4, t0, hqt, hvt⟩ := HN1.out
          have HQt := Lib.hid hqt
          have HVt := Lib.hid hvt
          obtain ⟨y0, y1, y2, y3, y4⟩ := cell5 hqt
          clear hqt hvt
          go_wp2_with fail
          refine (cat_any9 P M _ _ w9 HVv.out HVt.out (by rw [HMM.out]; exact HN9.out)).mono ?_
          rintro e w10 ⟨v, rfl, hP, hb⟩
          obtain ⟨l1, l5, l2, l6, l7, l3, l8, l9, l4, l0, rfl⟩ := hP.forms
          have hbr := (HN2.out.below hb).br
          have HF := Lib.hid ((HN2.out.below hb).fin hP)
          obtain ⟨oc0, oc1, oc2, oc3, oc4⟩ := cell5 hbr
          have of0 := frozen4 hbr 0
          have of1 := frozen4 hbr 1
          have of2 := frozen4 hbr 2
          have of3 := frozen4 hbr 3
          have of4 := frozen4 hbr 4
          clear hP hb hbr y0 y1 y2 y3 y4 z0 z1 z2 z3 z4
          go_wp2
          exact bodyPost_ret (ret5c Try.results30 rfl HF.out.1) rfl (HF.out.2.cast (by rw [HEQ.out, HMM.out]; unfold Pl.rep; rw [if_pos hneg]; rfl))
        · have HLO := Lib.hid (show K.loop = K.loop.orN (decide (lo = 0)) by rw [decide_eq_false h0, Pl.orN_false])
          obtain ⟨v1, v5, v2, v6, v7, v3, v8, v9, v4, v0, hqv, hvv⟩ := H87.out
          have HQv := Lib.hid hqv
          have HVv := Lib.hid hvv
          obtain ⟨z0, z1, z2, z3, z4⟩ := cell5 hqv
          clear hqv hvv
          obtain ⟨t1, t5, t2, t6, t7, t3, t8, t9, t4, t0, hqt, hvt⟩ := H97.out
          have HQt := Lib.hid hqt
          have HVt := Lib.hid hvt
          obtain ⟨y0, y1, y2, y3, y4⟩ := cell5 hqt
          clear hqt hvt
          go_wp2_with fail
          refine (cat_any9 P K.loop _ _ w7 HVv.out HVt.out HN9.out).mono ?_
          rintro e w10 ⟨v, rfl, hP, hb⟩
          obtain ⟨l1, l5, l2, l6, l7, l3, l8, l9, l4, l0, rfl⟩ := hP.forms
          have hbr := (HS7.out.below hb).br
          have HF := Lib.hid ((HS7.out.below hb).fin hP)
          obtain ⟨oc0, oc1, oc2, oc3, oc4⟩ := cell5 hbr
          have of0 := frozen4 hbr 0
          have of1 := frozen4 hbr 1
          have of2 := frozen4 hbr 2
          have of3 := frozen4 hbr 3
          have of4 := frozen4 hbr 4
          clear hP hb hbr y0 y1 y2 y3 y4 z0 z1 z2 z3 z4 x5 x6
          go_wp2
          exact bodyPost_ret (ret5c Try.results30 rfl HF.out.1) rfl (HF.out.2.cast (by rw [HEQ.out]; unfold Pl.rep; rw [if_pos hneg, ← HLO.out]))
  · have hpos : 0 ≤ hi := by omega
    have hlh : lo ≤ hi := by omega
    go_wp2_with fail
    clear x5 x6
    go_loopw [11] (fun c wr => ∃ i : Int, lo ≤ i ∧ i ≤ hi ∧ c = .int .i64 i ∧ Hid (OfS w (row8 5 s lo hi (.slice (some ⟨g, off, none⟩) n cap)) wr) ∧ Hid (PBx wr p K) ∧ Hid (PBx wr q (K.opts (i - lo).toNat))) (fun c _ => (hi - intOf c).toNat)
    case atStart => exact ⟨lo, by omega, hlh, rfl, HS5, H75, by rw [show (lo - lo).toNat = 0 by omega]; exact H85⟩
    case round =>
      obtain ⟨i, hi1, hi2, rfl, HS, H7, H8⟩ := hrel
      clear HS5 H75 H85
      obtain ⟨P, hP⟩ : ∃ P, P = K.opts (i - lo).toNat := ⟨_, rfl⟩
      rw [← hP] at H8
      have HP := Lib.hid hP
      clear hP
      obtain ⟨x0, x1, x2, x3, x4, x5, x6, x7⟩ := cell8 HS.out.bx
      clear x0 x1 x2 x3 x4 x7
      by_cases hlt : i < hi
      · have HN9 := Lib.hid (show K.n + P.n ≤ 900 by
          have h1 := HRL.out ((i - lo).toNat + 1) (by rw [HRM.out]; omega)
          rw [HP.out, opts_n]; rw [Nat.succ_mul] at h1; omega)
        have HPN := Lib.hid (show K.opts (i + 1 - lo).toNat = (K.cat P).may by rw [HP.out, show (i + 1 - lo).toNat = (i - lo).toNat + 1 by omega]; rfl)
        obtain ⟨u1, u5, u2, u6, u7, u3, u8, u9, u4, u0, hqu, hvu⟩ := H7.out
        have HQu := Lib.hid hqu
        have HVu := Lib.hid hvu
        obtain ⟨y0, y1, y2, y3, y4⟩ := cell5 hqu
        clear hqu hvu
        obtain ⟨v1, v5, v2, v6, v7, v3, v8, v9, v4, v0, hqv, hvv⟩ := H8.out
        have HQv := Lib.hid hqv
        have HVv := Lib.hid hvv
        obtain ⟨z0, z1, z2, z3, z4⟩ := cell5 hqv
        clear hqv hvv
        go_wp2_with fail
        refine (cat_any9 K P _ _ wr HVu.out HVv.out HN9.out).mono ?_
        rintro e w6 ⟨v, rfl, hP, hb⟩
        obtain ⟨d1, d5, d2, d6, d7, d3, d8, d9, d4, d0, rfl⟩ := hP.forms
        have HD := Lib.hid hP
        have HB6 := Lib.hid hb
        clear hP hb x5 x6 y0 y1 y2 y3 y4 z0 z1 z2 z3 z4
        go_wp2_with fail
        refine (maybe_any9 (K.cat P) _ w6 HD.out).mono ?_
        rintro e w7 ⟨v, rfl, hP, hb2⟩
        obtain ⟨k1, k5, k2, k6, k7, k3, k8, k9, k4, k0, rfl⟩ := hP.forms
        have hb := HB6.out.trans (hb2.mono HB6.out.size)
        have hq6 := (hb.block _ (lt_heap HQv.out)).trans HQv.out
        have HN1 := Lib.hid (PBx.set hq6 hP)
        have HN2 := Lib.hid ((HS.out.below hb).put (q := q) (by have := HL7.out; have := HL8.out; omega) (.slice k1 (K.cat P).may.n k5) (.slice k2 k6 k7) (.slice k3 k8 k9) (.slice k4 (K.cat P).may.n k0) (.bool (K.cat P).may.nu))
        have HN3 := Lib.hid ((H7.out.below hb).off hq6 (by have := HL8.out; omega) (.slice k1 (K.cat P).may.n k5) (.slice k2 k6 k7) (.slice k3 k8 k9) (.slice k4 (K.cat P).may.n k0) (.bool (K.cat P).may.nu))
        obtain ⟨oc0, oc1, oc2, oc3, oc4⟩ := cell5 hq6
        have of0 := frozen4 hq6 0
        have of1 := frozen4 hq6 1
        have of2 := frozen4 hq6 2
        have of3 := frozen4 hq6 3
        have of4 := frozen4 hq6 4
        clear hP hb hb2 hq6
        go_wp2
        go_roundw
        case rel => exact ⟨i + 1, by omega, by omega, by go_num, HN2, HN3, by rw [HPN.out]; exact HN1⟩
        case measure => simp [intOf]; omega
      · obtain rfl : i = hi := by omega
        go_wp2_with fail
        clear x5 x6
        have H80 : Hid (PBx wr q (K.pre P 0)) := H8
        clear H8
        obtain ⟨wd, hd⟩ : ∃ x, x = wr := ⟨wr, rfl⟩
        rw [← hd] at HS H7 H80 ⊢
        clear hd
        go_loopw [12] (fun c wr => ∃ j : Nat, (j : Int) ≤ lo ∧ c = .int .i64 j ∧ Hid (OfS w (row8 5 s lo i (.slice (some ⟨g, off, none⟩) n cap)) wr) ∧ Hid (PBx wr p K) ∧ Hid (PBx wr q (K.pre P j))) (fun c _ => (lo - intOf c).toNat)
        case atStart => exact ⟨0, by omega, rfl, HS, H7, H80⟩
        case round =>
          obtain ⟨j, hj, rfl, HS', H7', H8'⟩ := hrel
          clear HS H7 H80
          obtain ⟨R, hR⟩ : ∃ R, R = K.pre P j := ⟨_, rfl⟩
          rw [← hR] at H8'
          have HR := Lib.hid hR
          clear hR
          obtain ⟨x0, x1, x2, x3, x4, x5, x6, x7⟩ := cell8 HS'.out.bx
          clear x0 x1 x2 x3 x4 x7
          by_cases hlt : (j : Int) < lo
          · have HN9 := Lib.hid (show K.n + R.n ≤ 900 by
              have h1 := HRL.out ((i - lo).toNat + (j + 1)) (by rw [HRM.out]; omega)
              rw [HR.out, pre_n, HP.out, opts_n]; rw [Nat.add_mul, Nat.succ_mul] at h1; omega)
            obtain ⟨u1, u5, u2, u6, u7, u3, u8, u9, u4, u0, hqu, hvu⟩ := H7'.out
            have HQu := Lib.hid hqu
            have HVu := Lib.hid hvu
            obtain ⟨y0, y1, y2, y3, y4⟩ := cell5 hqu
            clear hqu hvu
            obtain ⟨v1, v5, v2, v6, v7, v3, v8, v9, v4, v0, hqv, hvv⟩ := H8'.out
            have HQv := Lib.hid hqv
            have HVv := Lib.hid hvv
            obtain ⟨z0, z1, z2, z3, z4⟩ := cell5 hqv
            clear hqv hvv
            go_wp2_with fail
            refine (cat_any9 K R _ _ wr HVu.out HVv.out HN9.out).mono ?_
            rintro e w6 ⟨v, rfl, hP, hb⟩
            obtain ⟨d1, d5, d2, d6, d7, d3, d8, d9, d4, d0, rfl⟩ := hP.forms
            have hq6 := (hb.block _ (lt_heap HQv.out)).trans HQv.out
            have HN1 := Lib.hid (PBx.set hq6 hP)
            have HN2 := Lib.hid ((HS'.out.below hb).put (q := q) (by have := HL7.out; have := HL8.out; omega) (.slice d1 (K.cat R).n d5) (.slice d2 d6 d7) (.slice d3 d8 d9) (.slice d4 (K.cat R).n d0) (.bool (K.cat R).nu))
            have HN3 := Lib.hid ((H7'.out.below hb).off hq6 (by have := HL8.out; omega) (.slice d1 (K.cat R).n d5) (.slice d2 d6 d7) (.slice d3 d8 d9) (.slice d4 (K.cat R).n d0) (.bool (K.cat R).nu))
            have HPN := Lib.hid (show K.pre P (j + 1) = K.cat R by rw [HR.out]; rfl)
            obtain ⟨oc0, oc1, oc2, oc3, oc4⟩ := cell5 hq6
            have of0 := frozen4 hq6 0
            have of1 := frozen4 hq6 1
            have of2 := frozen4 hq6 2
            have of3 := frozen4 hq6 3
            have of4 := frozen4 hq6 4
            clear hP hb hq6 x5 x6 y0 y1 y2 y3 y4 z0 z1 z2 z3 z4
            go_wp2
            go_roundw
            case rel => exact ⟨j + 1, by omega, by go_num, HN2, HN3, by rw [HPN.out]; exact HN1⟩
            case measure => simp [intOf]; omega
          · have HEQ := Lib.hid (show R = K.rep lo i by
              rw [HR.out, Pl.pre_pows, HP.out]; unfold Pl.rep; rw [if_neg (by omega), show lo.toNat = j by omega])
            obtain ⟨v1, v5, v2, v6, v7, v3, v8, v9, v4, v0, hqv, hvv⟩ := H8'.out
            have HQv := Lib.hid hqv
            have HVv := Lib.hid hvv
            obtain ⟨z0, z1, z2, z3, z4⟩ := cell5 hqv
            clear hqv hvv
            have hbr := HS'.out.br
            have HF := Lib.hid (HS'.out.fin HVv.out)
            obtain ⟨oc0, oc1, oc2, oc3, oc4⟩ := cell5 hbr
            have of0 := frozen4 hbr 0
            have of1 := frozen4 hbr 1
            have of2 := frozen4 hbr 2
            have of3 := frozen4 hbr 3
            have of4 := frozen4 hbr 4
            clear hbr
            go_wp2
            exact bodyPost_ret (ret5c Try.results30 rfl HF.out.1) rfl (HF.out.2.cast HEQ.out)
end Go.Proofs.Ytbahadgcmaabcaa
