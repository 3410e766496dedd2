/- The builder's addAlt. -/
import Derived.Test.YtbahadgcmaabcaaKf
namespace Go.Proofs.Ytbahadgcmaabcaa
open Go.RowKit Go
theorem PtV.lists {w : World} {x y : Value} {b : Bool} {X : Pa} (h : PtV w (.agg #[x, y, .bool b]) X) : ∃ lf ll, IL w x lf ∧ IsL lf X.fi ∧ IL w y ll ∧ IsL ll X.la := by
  obtain ⟨vf, vl, lf, ll, he, i1, s1, i2, s2⟩ := h
  injection he with he
  injection he with he
  injection he with he1 he
  injection he with he2 he
  rw [he1, he2]
  exact ⟨lf, ll, i1, s1, i2, s2⟩
set_option maxRecDepth 100000 in
set_option maxHeartbeats 4000000 in
theorem addAlt_any (B p : Nat) (G : Gs) (a : Option Addr) (n cap : Nat) (kid : Nat → Tr) (w : World) (hbl : Bl B w p G) (hB : B ≤ w.heap.size) (hr : KRow B w a n cap kid) (ih : ∀ i, i < n → AddC B p (kid i)) (hn : G.n + (Pl.altTo (fun i => plT (kid i)) n).n ≤ 1000) :
    Calls Try.prog 39 #[.pointer (some ⟨p, 0, none⟩), .slice a n cap] w (AddE B w p G (Pl.altTo (fun i => plT (kid i)) n)) := by
  have HR := Lib.hid hr
  have HB := Lib.hid hB
  have HIH := Lib.hid ih
  have HN := Lib.hid hn
  have hG := hbl.1
  obtain ⟨hcap, hm, _, _⟩ := hr
  unfold maxLen at hm
  have hb2 := alloc2_below w (.cells part0 58) (.cells #[.slice none 0 0, .slice none 0 0, .bool false] 58)
  have HPN : Hid (part0 = #[.slice none 0 0, .slice none 0 0, .bool false]) := Lib.hid rfl
  have HS0 : Hid (AcS B w p (G.add (Pl.altTo (fun i => plT (kid i)) 0)) w.heap.size ((w.alloc (.cells part0 58)).alloc (.cells #[.slice none 0 0, .slice none 0 0, .bool false] 58))) := Lib.hid ⟨(heap2 _ _ _).1, Nat.le_refl _, KT.of hb2, by rw [show G.add (Pl.altTo (fun i => plT (kid i)) 0) = G from Gs.add_nil hG false]; exact hbl.below hb2⟩
  have HB0 : Hid (PBt ((w.alloc (.cells part0 58)).alloc (.cells #[.slice none 0 0, .slice none 0 0, .bool false] 58)) (w.heap.size + 1) ((Pl.altTo (fun i => plT (kid i)) 0).part G.n)) := Lib.hid ⟨none, 0, 0, none, 0, 0, (heap2 _ _ _).2, pt_nil _ G.n false⟩
  clear hbl hB ih hn hb2 hG
  go_enter Try.func39, Try.ntmps39
  go_wp2_with fail
  obtain ⟨w2, hw2⟩ : ∃ x, x = (w.alloc (.cells part0 58)).alloc (.cells #[.slice none 0 0, .slice none 0 0, .bool false] 58) := ⟨_, rfl⟩
  obtain ⟨q, hq⟩ : ∃ q, q = w.heap.size + 1 := ⟨_, rfl⟩
  have HLO : Hid (w.heap.size ≤ q ∧ w.heap.size ≠ q) := Lib.hid (by omega)
  rw [← hw2] at HS0
  rw [← hw2, ← hq] at HB0
  rw [← hw2, ← hq]
  clear hw2 hq
  go_loopw [11] (fun c wr => ∃ j : Nat, j ≤ n ∧ c = .int .i64 j ∧ Hid (AcS B w p (G.add (Pl.altTo (fun i => plT (kid i)) j)) w.heap.size wr) ∧ Hid (PBt wr q ((Pl.altTo (fun i => plT (kid i)) j).part G.n))) (fun c _ => n - (intOf c).toNat)
  case atStart => exact ⟨0, by omega, rfl, HS0, HB0⟩
  case round =>
    obtain ⟨j, hj, rfl, HS, HT⟩ := hrel
    obtain ⟨P, hP⟩ : ∃ P, P = Pl.altTo (fun i => plT (kid i)) j := ⟨_, rfl⟩
    rw [← hP] at HS HT
    have HP := Lib.hid hP
    have HPO : Hid P.Ok := Lib.hid (by rw [hP]; exact Pl.ok_altTo fun i _ => plT_ok _)
    clear hP
    by_cases hlt : j < n
    · obtain ⟨g, off, rfl, hc, hl⟩ := HR.out.get HS.out.kt HB.out hlt
      have hlt' : (j : Int) < (n : Int) := by omega
      have HL := Lib.hid hl
      obtain ⟨c0, c1, c2, c3, c4, c5, c6, c7⟩ := hc
      obtain ⟨KP, hKP⟩ : ∃ x, x = plT (kid j) := ⟨_, rfl⟩
      have HPJ := Lib.hid (show Pl.altTo (fun i => plT (kid i)) (j + 1) = P.alt KP by rw [HP.out, hKP]; rfl)
      have HKO : Hid KP.Ok := Lib.hid (by rw [hKP]; exact plT_ok _)
      have HN9 := Lib.hid (show G.n + P.n + KP.n ≤ 1000 by have := altTo_le (f := fun i => plT (kid i)) (show j + 1 ≤ n by omega); rw [HPJ.out] at this; have h2 : (P.alt KP).n = P.n + KP.n := rfl; have := HN.out; omega)
      have HIK : Hid (∀ (W : World) (G' : Gs), Bl B W p G' → B ≤ W.heap.size → Lives W B (kid j) → G'.n + KP.n ≤ 1000 → Calls Try.prog 26 #[.pointer (some ⟨p, 0, none⟩), (kid j).val] W (AddE B W p G' KP)) := Lib.hid (by rw [hKP]; exact HIH.out j hlt)
      clear hKP hl
      go_upto_region 5 with fail
      obtain ⟨w1, hw1⟩ : ∃ x, x = wr.alloc (.cells (row8 (kid j).k (kid j).s (kid j).lo (kid j).hi (.slice (kid j).a (kid j).n (kid j).cap)) 27) := ⟨_, rfl⟩
      obtain ⟨r, hr⟩ : ∃ r, r = wr.heap.size := ⟨_, rfl⟩
      have hb1 : Below wr.heap.size wr w1 := by rw [hw1]; exact alloc_below _ _
      have HRB : Hid (w1.heap[r]? = some (.cells (row8 (kid j).k (kid j).s (kid j).lo (kid j).hi (.slice (kid j).a (kid j).n (kid j).cap)) 27 (0, 0))) := Lib.hid (by rw [hw1, hr]; exact heap_alloc_new _ _)
      have HS1 := Lib.hid (HS.out.below hb1)
      have HT1 := Lib.hid (HT.out.kt (KT.of (B := B) hb1))
      have HL1 := Lib.hid (HL.out.below ((KT.of (B := B) hb1).below (Nat.le_trans HB.out HS.out.kt.size)))
      have HB1 := Lib.hid (show B ≤ w1.heap.size from Nat.le_trans (Nat.le_trans HB.out HS.out.kt.size) hb1.size)
      rw [← hw1, ← hr]
      clear hw1 hr hb1 c0 c1 c2 c3 c4 c5 c6 c7 HS HT HL
      obtain ⟨x0, x1, x2, x3, x4, x5, x6, x7⟩ := cell8 HRB.out
      go_wp2_with fail
      refine (HIK.out w1 (G.add P) HS1.out.bl HB1.out HL1.out HN9.out).mono ?_
      rintro e w3 ⟨v, rfl, hP, hG, hk⟩
      rw [Gs.alt_add G HPO.out] at hG
      obtain ⟨b1, m1, d1, b2, m2, d2, rfl⟩ := hP.forms
      have hb4 := alloc_below w3 (.cells #[.slice b1 m1 d1, .slice b2 m2 d2, .bool KP.nu] 58)
      have HS4 := Lib.hid ((HS1.out.go hk hG).below hb4)
      have HT4 := Lib.hid (HT1.out.kt (hk.trans (KT.of hb4)))
      have HO4 := Lib.hid (heap_alloc_new w3 (.cells #[.slice b1 m1 d1, .slice b2 m2 d2, .bool KP.nu] 58))
      have HP4 := Lib.hid (hP.below hb4)
      have hoq : q < w3.heap.size := by obtain ⟨_, _, _, _, _, _, h, _⟩ := HT1.out.kt hk; exact lt_heap h
      clear x0 x1 x2 x3 x4 x5 x6 x7 hP hG hk hb4 HS1 HT1 HRB HL1
      go_upto_region 6 with fail
      obtain ⟨w4, hw⟩ : ∃ x, x = w3.alloc (.cells #[.slice b1 m1 d1, .slice b2 m2 d2, .bool KP.nu] 58) := ⟨_, rfl⟩
      obtain ⟨o, ho⟩ : ∃ o, o = w3.heap.size := ⟨_, rfl⟩
      rw [← hw] at HS4 HT4 HP4
      rw [← hw, ← ho] at HO4
      rw [← ho] at hoq
      rw [← hw, ← ho]
      clear hw ho
      have HOQ := Lib.hid hoq
      obtain ⟨a1, n1, c1, a2, n2, c2, hq, hPv⟩ := HT4.out
      have HQ4 := Lib.hid hq
      obtain ⟨lf, ll, i1, s1, i2, s2⟩ := hPv.lists
      obtain ⟨kf, kl, j1, t1, j2, t2⟩ := HP4.out.lists
      have HI1 := Lib.hid i1
      have HI2 := Lib.hid i2
      have HJ1 := Lib.hid j1
      have HJ2 := Lib.hid j2
      have HSS := Lib.hid (And.intro s1 (And.intro s2 (And.intro t1 t2)))
      have HLE := Lib.hid (show lf.length ≤ 1000 ∧ ll.length ≤ 1000 ∧ kf.length ≤ 1000 ∧ kl.length ≤ 1000 from
        ⟨by have := s1.len (n := G.n + P.n) (Pl.part_le HPO.out G.n _ (Nat.le_refl _)).fi; have := HN9.out; omega,
          by have := s2.len (n := G.n + P.n) (Pl.part_le HPO.out G.n _ (Nat.le_refl _)).la; have := HN9.out; omega,
          by have := t1.len (n := G.n + P.n + KP.n) (Pl.part_le HKO.out (G.n + P.n) _ (Nat.le_refl _)).fi; have := HN9.out; omega,
          by have := t2.len (n := G.n + P.n + KP.n) (Pl.part_le HKO.out (G.n + P.n) _ (Nat.le_refl _)).la; have := HN9.out; omega⟩)
      obtain ⟨y0, y1, y2⟩ := cell3 hq
      obtain ⟨z0, z1, z2⟩ := cell3 HO4.out
      clear hq hPv i1 i2 j1 j2 s1 s2 t1 t2 hoq
      go_wp2_with fail
      refine (merged_any lf kf _ _ w4 HI1.out HJ1.out HSS.out.1.1 HSS.out.2.2.1.1 (by have := HLE.out; omega)).mono ?_
      rintro e w5 ⟨v5, rfl, hil, hb⟩
      have HV5 := Lib.hid hil
      obtain ⟨e1, f1, rfl, _⟩ := hil
      have HS5 := Lib.hid (HS4.out.below hb)
      have HQ5 := Lib.hid ((hb.block _ (lt_heap HQ4.out)).trans HQ4.out)
      have HO5 := Lib.hid ((hb.block _ (lt_heap HO4.out)).trans HO4.out)
      have HI5 := Lib.hid (HI2.out.below hb)
      have HJ5 := Lib.hid (HJ2.out.below hb)
      clear hb y0 y1 y2 z0 z1 z2
      obtain ⟨y0, y1, y2⟩ := cell3 HQ5.out
      have yf0 := frozen4 HQ5.out 0
      have yf1 := frozen4 HQ5.out 1
      have yf2 := frozen4 HQ5.out 2
      obtain ⟨z0, z1, z2⟩ := cell3 HO5.out
      go_upto_region 7 with fail
      have HG6 := Lib.hid (grown_set w5 q 0 (.slice e1 (mrg lf kf).length f1))
      have HQ6 := Lib.hid (set_0 (.slice e1 (mrg lf kf).length f1) HQ5.out)
      have HK6 : Hid (∀ v l, IL w5 v l → IL (w5.setCell ⟨q, 0, none⟩ (.slice e1 (mrg lf kf).length f1)) v l) := Lib.hid fun v l h => il_other h HG6.out fun k hk => by cases hk; exact ⟨_, _, HQ5.out, by decide⟩
      have HO6 := Lib.hid ((HG6.out.block o (lt_heap HO5.out) fun e => by have := Option.some.inj e; have := HOQ.out; omega).trans HO5.out)
      have HS6 := Lib.hid (HS5.out.grow HG6.out HQ5.out HLO.out.1 HLO.out.2)
      obtain ⟨w6, hw⟩ : ∃ x, x = w5.setCell ⟨q, 0, none⟩ (.slice e1 (mrg lf kf).length f1) := ⟨_, rfl⟩
      rw [← hw] at HG6 HQ6 HK6 HO6 HS6
      rw [← hw]
      clear hw y0 y1 y2 z0 z1 z2 yf0 yf1 yf2
      obtain ⟨y0, y1, y2⟩ := cell3 HQ6.out
      obtain ⟨z0, z1, z2⟩ := cell3 HO6.out
      go_wp2_with fail
      refine (merged_any ll kl _ _ w6 (HK6.out _ _ HI5.out) (HK6.out _ _ HJ5.out) HSS.out.2.1.1 HSS.out.2.2.2.1 (by have := HLE.out; omega)).mono ?_
      rintro e w7 ⟨v7, rfl, hil, hb⟩
      have HV7 := Lib.hid hil
      obtain ⟨e2, f2, rfl, _⟩ := hil
      have HS7 := Lib.hid (HS6.out.below hb)
      have HQ7 := Lib.hid ((hb.block _ (lt_heap HQ6.out)).trans HQ6.out)
      have HO7 := Lib.hid ((hb.block _ (lt_heap HO6.out)).trans HO6.out)
      have HV6 := Lib.hid ((HK6.out _ _ HV5.out).below hb)
      clear hb y0 y1 y2 z0 z1 z2
      obtain ⟨y0, y1, y2⟩ := cell3 HQ7.out
      have yf0 := frozen4 HQ7.out 0
      have yf1 := frozen4 HQ7.out 1
      have yf2 := frozen4 HQ7.out 2
      obtain ⟨z0, z1, z2⟩ := cell3 HO7.out
      go_upto_region 8 with fail
      have HG8 := Lib.hid (grown_set w7 q 1 (.slice e2 (mrg ll kl).length f2))
      have HQ8 := Lib.hid (set_1 (.slice e2 (mrg ll kl).length f2) HQ7.out)
      have HK8 : Hid (∀ v l, IL w7 v l → IL (w7.setCell ⟨q, 1, none⟩ (.slice e2 (mrg ll kl).length f2)) v l) := Lib.hid fun v l h => il_other h HG8.out fun k hk => by cases hk; exact ⟨_, _, HQ7.out, by decide⟩
      have HO8 := Lib.hid ((HG8.out.block o (lt_heap HO7.out) fun e => by have := Option.some.inj e; have := HOQ.out; omega).trans HO7.out)
      have HS8 := Lib.hid (HS7.out.grow HG8.out HQ7.out HLO.out.1 HLO.out.2)
      have HP8 := Lib.hid (And.intro (HK8.out _ _ HV6.out) (HK8.out _ _ HV7.out))
      obtain ⟨w8, hw⟩ : ∃ x, x = w7.setCell ⟨q, 1, none⟩ (.slice e2 (mrg ll kl).length f2) := ⟨_, rfl⟩
      rw [← hw] at HQ8 HO8 HS8 HP8
      rw [← hw]
      clear hw y0 y1 y2 z0 z1 z2 yf0 yf1 yf2 HK8 HG8
      obtain ⟨y0, y1, y2⟩ := cell3 HQ8.out
      have yf0 := frozen4 HQ8.out 0
      have yf1 := frozen4 HQ8.out 1
      have yf2 := frozen4 HQ8.out 2
      obtain ⟨z0, z1, z2⟩ := cell3 HO8.out
      have HFI := Lib.hid ((HSS.out.1.mrg HSS.out.2.2.1).congr fun i => sh_alt_fi P KP HPO.out G.n i)
      have HLA := Lib.hid ((HSS.out.2.1.mrg HSS.out.2.2.2).congr fun i => sh_alt_la P KP HPO.out G.n i)
      obtain ⟨u, hu⟩ : ∃ u, u = P.nu := ⟨_, rfl⟩
      obtain ⟨x, hx⟩ : ∃ x, x = KP.nu := ⟨_, rfl⟩
      have HUX := Lib.hid (show (P.alt KP).nu = (u || x) by rw [hu, hx]; rfl)
      rw [← hu] at HQ8 y2
      rw [← hx] at z2
      clear hu hx
      have HEN : Hid (∀ b : Bool, (u || x) = b → AcS B w p (G.add (P.alt KP)) w.heap.size (w8.setCell ⟨q, 2, none⟩ (.bool b)) ∧ PBt (w8.setCell ⟨q, 2, none⟩ (.bool b)) q ((P.alt KP).part G.n)) := Lib.hid fun b hb => by
        have hg := grown_set w8 q 2 (.bool b)
        have key : ∀ v l, IL w8 v l → IL (w8.setCell ⟨q, 2, none⟩ (.bool b)) v l := fun v l h => il_other h hg fun k hk => by cases hk; exact ⟨_, _, HQ8.out, by decide⟩
        have hn : ((P.alt KP).part G.n).nu = b := HUX.out.trans hb
        refine ⟨HS8.out.grow hg HQ8.out HLO.out.1 HLO.out.2, e1, (mrg lf kf).length, f1, e2, (mrg ll kl).length, f2, ?_, ?_⟩
        · rw [hn]; exact set_2 (.bool b) HQ8.out
        · rw [hn]; exact ⟨_, _, _, _, by rw [hn], key _ _ HP8.out.1, HFI.out, key _ _ HP8.out.2, HLA.out⟩
      cases u
      · have HX := Lib.hid (HEN.out x (by simp))
        go_wp2
        go_roundw
        case rel => exact ⟨j + 1, hlt, by go_num, by rw [HPJ.out]; exact Lib.hid HX.out.1, by rw [HPJ.out]; exact Lib.hid HX.out.2⟩
        case measure => simp [intOf]; omega
      · have HX := Lib.hid (HEN.out true (by simp))
        go_wp2
        go_roundw
        case rel => exact ⟨j + 1, hlt, by go_num, by rw [HPJ.out]; exact Lib.hid HX.out.1, by rw [HPJ.out]; exact Lib.hid HX.out.2⟩
        case measure => simp [intOf]; omega
    · obtain rfl : n = j := by omega
      obtain ⟨a1, n1, c1, a2, n2, c2, hq, hPv⟩ := HT.out
      obtain ⟨p0, p1, p2⟩ := cell3 hq
      have HF := Lib.hid (HS.out.fin rfl hPv rfl)
      have hbr := HS.out.br
      obtain ⟨l0, l1, l2⟩ := cell3 hbr
      have m0 := frozen4 hbr 0
      have m1 := frozen4 hbr 1
      have m2 := frozen4 hbr 2
      clear hbr hq hPv
      go_wp2
      exact bodyPost_ret (ret3c Try.results39 rfl HF.out.1) rfl (by rw [← HP.out]; exact HF.out.2)
end Go.Proofs.Ytbahadgcmaabcaa
