/- Contract of the landed code's Same, for any patterns: the walk. -/
import Derived.Test.YtadiphijfbpcnaaDoorS
namespace Go.Proofs.YtadiphijfbpcnaaDoor
open Go.RowKit
theorem rowC_ne {w : World} {B g c n : Nat} {xs : List Value} (h : w.ownsRow B 51 2 (.slice (some ⟨g, 0, none⟩) n c) n xs) : some w.heap.size ≠ (Value.slice (some ⟨g, 0, none⟩) n c).ownBlock := fun e => by have := (h.lt _ e.symm).2; omega
theorem like_n {t u : Tr} (h : likeB t u = true) : u.n = t.n := by
  simp only [likeB, Bool.and_eq_true, decide_eq_true_eq] at h; exact h.2.2.2.2.symm
theorem lives_at {w : World} {B : Nat} {t : Tr} (h : Lives w B t) : t.n ≤ t.cap ∧ (0 < t.n → ∃ g off, t.a = some ⟨g, off, none⟩ ∧ g < B ∧ ∀ i, i < t.n → At8 w g (off + i * 8) (t.kid i)) ∧ ∀ i, i < t.n → Lives w B (t.kid i) := by
  cases t with
  | nul => exact h.elim
  | node => exact ⟨h.2.1, h.2.2.2.1, h.2.2.2.2⟩
theorem heap_alloc5_c (w : World) (A B C D E : Obj) : (((((w.alloc A).alloc B).alloc C).alloc D).alloc E).heap[w.heap.size + 2]? = some C := by
  rw [Below.heap_alloc _ _ _ (by simp), Below.heap_alloc _ _ _ (by simp)]; exact heap_alloc3_c _ _ _ _
theorem heap_alloc5_d (w : World) (A B C D E : Obj) : (((((w.alloc A).alloc B).alloc C).alloc D).alloc E).heap[w.heap.size + 3]? = some D := by
  rw [Below.heap_alloc _ _ _ (by simp)]; have := heap_alloc_new (((w.alloc A).alloc B).alloc C) D; simpa using this
theorem heap_alloc5_e (w : World) (A B C D E : Obj) : (((((w.alloc A).alloc B).alloc C).alloc D).alloc E).heap[w.heap.size + 4]? = some E := by
  have := heap_alloc_new ((((w.alloc A).alloc B).alloc C).alloc D) E; simpa using this
set_option maxRecDepth 100000 in
set_option maxHeartbeats 4000000 in
theorem same_any (t u : Tr) (w : World) (hL : Lives w w.heap.size t) (hL' : Lives w w.heap.size u) (hc : cnt t ≤ 2000) :
    Calls Tryd.prog 15 #[t.val, u.val] w fun e w' => e = .returned (.bool (sameT t u)) ∧ Below w.heap.size w w' := by
  obtain ⟨i0, hi, hz0, hz1, hz2⟩ := info_parts info51
  obtain ⟨R, hR⟩ : ∃ R, R = sameT t u := ⟨_, rfl⟩
  rw [← hR]
  have HR := Lib.hid hR
  have HL := Lib.hid hL
  have HL' := Lib.hid hL'
  clear hR hL hL'
  show Calls Tryd.prog 15 #[nodeV t.k t.s t.lo t.hi (.slice t.a t.n t.cap), nodeV u.k u.s u.lo u.hi (.slice u.a u.n u.cap)] w _
  go_enter Tryd.func15, Tryd.ntmps15
  go_wp2
  go_loopg [5, 6] (cnt t) (fun gk ev v wr => ∃ E : Nat, ev = .int .i64 E ∧ Hid (SmI (w.heap.size + 4) R gk E v wr) ∧ w.heap.size + 4 ≤ wr.heap.size ∧ Below w.heap.size w wr)
  case atStart =>
    have hb3 : Below w.heap.size w (((((w.alloc (.cells (row8 t.k t.s t.lo t.hi (.slice t.a t.n t.cap)) 27)).alloc (.cells (row8 u.k u.s u.lo u.hi (.slice u.a u.n u.cap)) 27)).alloc (.cells (row8 t.k t.s t.lo t.hi (.slice t.a t.n t.cap)) 27)).alloc (.cells (row8 u.k u.s u.lo u.hi (.slice u.a u.n u.cap)) 27)).alloc (.cells #[.slice (some ⟨w.heap.size + 2, 0, none⟩) 1 1, .slice (some ⟨w.heap.size + 3, 0, none⟩) 1 1] 51)) := ((((alloc_below _ _).alloc (by simp) _).alloc (by simp; omega) _).alloc (by simp; omega) _).alloc (by simp; omega) _
    refine ⟨1, rfl, Lib.hid ⟨[⟨w.heap.size + 2, 0, 1, fun _ => t, 1, w.heap.size + 3, 0, 1, fun _ => u⟩], ⟨rfl, Or.inr ⟨w.heap.size + 4, 1, _, rfl, Nat.le_refl _, heap_alloc5_e _ _ _ _ _ _, by simp, by unfold maxLen; omega, rfl, rfl⟩⟩, fun b hb => ?_, ?_, ?_, ?_, ?_⟩, by simp, hb3⟩
    · rw [List.mem_singleton] at hb
      subst hb
      refine ⟨by simp, by simp, by simp, by simp, by simp, fun i hi => ?_, fun i hi => ?_, fun i hi => (HL.out.below hb3).mono (by omega), fun i hi => (HL'.out.below hb3).mono (by omega)⟩
      · obtain rfl : i = 0 := by have : i < 1 := hi; omega
        exact cell8 (heap_alloc5_c _ _ _ _ _ _)
      · obtain rfl : i = 0 := by have : i < 1 := hi; omega
        exact cell8 (heap_alloc5_d _ _ _ _ _ _)
    · simp [pendC, sumC, sumTo]
    · simp [pendC, sumC, sumTo]; exact hc
    · have := cnt_dsc t; simp [restC, sumC, sumTo]; omega
    · rw [HR.out]; simp [allC, sameC, allTo]
  case round =>
    obtain ⟨E, rfl, HI, hsz, hb⟩ := hrel
    obtain ⟨bs, hown, hbr, hgk, hpe, hrest, htot⟩ := HI.out
    rcases List.eq_nil_or_concat bs with rfl | ⟨bs', b, hbs⟩
    · obtain ⟨a, c, rfl⟩ := row_slice hown
      have HM := Lib.hid (smI_empty HI.out)
      clear htot hrest hgk hown
      go_wp2
      go_ret
      exact ⟨ret_bool HM.out.symm, hb⟩
    · rw [List.concat_eq_append] at hbs
      subst hbs
      have hlen : (bs' ++ [b]).length = bs'.length + 1 := by simp
      rw [hlen] at hown
      obtain ⟨g, c, rfl, hg, hgl, hc1, hc2, _⟩ := row_cells hown (by omega)
      have hpl := pendC_len _ fun c hc => (hbr c hc).1
      rw [hlen] at hpl
      have hL5 : bs'.length ≤ 5000 := by omega
      obtain ⟨d0, d1⟩ := topC_cells hown
      have HCUT := Lib.hid (rowC_cut hown)
      have HBR := Lib.hid hbr
      have HPE := Lib.hid hgk
      have HRE := Lib.hid hrest
      have HTO := Lib.hid htot
      have HPEN := Lib.hid hpe
      have hE : (E : Int) ≤ 26843545 := by omega
      have hL6 : (bs'.length : Int) ≤ 5000 := by omega
      obtain ⟨hbn, hbc, hbc', hbg, hbg', hat, hat', hlv, hlv'⟩ := hbr b (by simp)
      have HAT := Lib.hid hat
      have HLV := Lib.hid hlv
      have HAT' := Lib.hid hat'
      have HLV' := Lib.hid hlv'
      have HL5 := Lib.hid hL5
      have i1 : (bs'.length : Int) ≤ (c : Int) := by omega
      clear hown hbr hgk hrest htot hlen hpl hpe hat hlv hat' hlv' hL5 hc2
      generalize hLL : bs'.length = L at *
      go_wp2_with fail
      have HK := Lib.hid (heap_alloc_new wr (.cells #[.slice (some ⟨b.g, b.off, none⟩) b.n b.cap, .slice (some ⟨b.g', b.off', none⟩) b.n b.cap'] 51))
      have hne : some wr.heap.size ≠ (Value.slice (some ⟨g, 0, none⟩) L c).ownBlock := rowC_ne HCUT.out
      have hO := HCUT.out.alloc (.cells #[.slice (some ⟨b.g, b.off, none⟩) b.n b.cap, .slice (some ⟨b.g', b.off', none⟩) b.n b.cap'] 51)
      have HG := Lib.hid (World.grownBy_alloc wr (.cells #[.slice (some ⟨b.g, b.off, none⟩) b.n b.cap, .slice (some ⟨b.g', b.off', none⟩) b.n b.cap'] 51) (Value.slice (some ⟨g, 0, none⟩) L c).ownBlock)
      have hpw : wr.heap.size < (wr.alloc (.cells #[.slice (some ⟨b.g, b.off, none⟩) b.n b.cap, .slice (some ⟨b.g', b.off', none⟩) b.n b.cap'] 51)).heap.size := by simp
      generalize hwq : wr.alloc (.cells #[.slice (some ⟨b.g, b.off, none⟩) b.n b.cap, .slice (some ⟨b.g', b.off', none⟩) b.n b.cap'] 51) = wq at *
      clear hwq
      obtain ⟨c0, c1⟩ := keep2 HK.out (grownBy_refl wq _) hne
      obtain ⟨p, hp⟩ : ∃ p, p = wr.heap.size := ⟨_, rfl⟩
      rw [← hp] at HK hne c0 c1 hpw
      rw [← hp]
      have HPP := Lib.hid hp
      clear hp
      have hbq : w.heap.size + 4 ≤ wq.heap.size := by have := HG.out.size; omega
      go_region_held3 (fun w' => w'.cell? ⟨p, 0, none⟩ = some (.slice (some ⟨b.g, b.off, none⟩) b.n b.cap) ∧ w'.cell? ⟨p, 1, none⟩ = some (.slice (some ⟨b.g', b.off', none⟩) b.n b.cap'))
        (first | exact keep2 HK.out (grownBy_drew _ _) hne | exact keep2 HK.out (grownBy_trans (grownBy_drew _ _) hg1) hne)
        (first
          | (go_at_call 28; refine (cleave_any b (w.heap.size + 4) L _ _ wq.drew hbn hbc hbc' HL5.out hbq hO).mono ?_; rintro e w1 ⟨v1, rfl, hown1, hg1⟩))
      have hGG := grownBy_trans HG.out (grownBy_trans (grownBy_drew wq _) hg1)
      have hB1 := grown_below HCUT.out hsz hGG
      have hpw1 : p < w1.heap.size := by have := hg1.size; exact Nat.lt_of_lt_of_le hpw this
      have HKB := Lib.hid ((hg1.block p hpw hne).trans HK.out)
      obtain ⟨k0, k1⟩ := keep2 HKB.out (grownBy_refl w1 none) (by simp)
      obtain ⟨x0, x1, x2, x3, x4, x5, x6, x7⟩ := ((HAT.out 0 hbn).below hbg hB1).zero
      obtain ⟨y0, y1, y2, y3, y4, y5, y6, y7⟩ := ((HAT'.out 0 hbn).below hbg' hB1).zero
      have i2 : (0 : Int) < (b.n : Int) := by omega
      have HB1 := Lib.hid hB1
      have HOWN1 := Lib.hid hown1
      clear c0 c1 d0 d1 hGG hB1 hg1 HK hO HG hown1
      go_wp2_with fail
      go_still_tail 8, (by kernel_rfl)
      change wpList _ _ _ _ _ w1.drew
      have hBd : Below w1.heap.size w1 w1.drew := (Below.refl _ _).drew
      generalize w1.drew = wd at *
      clear k0 k1 x0 x1 x2 x3 x4 x5 x6 x7 y0 y1 y2 y3 y4 y5 y6 y7
      obtain ⟨f, hf⟩ : ∃ f, f = likeB (b.kid 0) (b.kid' 0) := ⟨_, rfl⟩
      have HF := Lib.hid hf
      clear hf
      go_wp2_with fail
      refine (like_any (b.kid 0) (b.kid' 0) _).mono ?_
      rintro e w2 ⟨rfl, hb2'⟩
      rw [← HF.out]
      have hb2 : Below w1.heap.size w1 w2 := hBd.trans (hb2'.mono hBd.size)
      have HB2 := Lib.hid (HB1.out.trans (hb2.mono (show w.heap.size + 4 ≤ w1.heap.size by have := HB1.out.size; omega)))
      have HOWN2 := Lib.hid (ownsRow_below HOWN1.out hb2)
      obtain ⟨l0, l1⟩ := keep2 ((hb2.block p hpw1).trans HKB.out) (grownBy_refl w2 none) (by simp)
      obtain ⟨x0, x1, x2, x3, x4, x5, x6, x7⟩ := ((HAT.out 0 hbn).below hbg HB2.out).zero
      obtain ⟨y0, y1, y2, y3, y4, y5, y6, y7⟩ := ((HAT'.out 0 hbn).below hbg' HB2.out).zero
      have hbB : Below w.heap.size w w2 := hb.trans (HB2.out.mono (by omega))
      have hs2 : w.heap.size + 4 ≤ w2.heap.size := Nat.le_trans hsz HB2.out.size
      clear hb2 hb2' hBd HB1 HOWN1 HKB
      cases f
      · have HNO := Lib.hid (smI_not hbn HTO.out HF.out.symm)
        go_wp2
        go_ret
        exact ⟨ret_bool HNO.out.symm, hbB⟩
      · by_cases hxn : (b.kid 0).n = 0
        · have HST := Lib.hid (smI_leaf hbn HBR.out HPEN.out HRE.out HTO.out HF.out.symm hxn (by rw [hLL]; exact HOWN2.out) HB2.out)
          have hxn' : ¬ 0 < (b.kid 0).n := by omega
          go_wp2
          go_roundg (pendC (bs' ++ tailC b))
          case measure => rw [HPE.out]; exact HST.out.2
          case rel => exact ⟨E, rfl, Lib.hid HST.out.1, hs2, hbB⟩
        · have hxp : 0 < (b.kid 0).n := by omega
          have HLX := Lib.hid (lives_at ((HLV.out 0 hbn).below HB2.out))
          have HLY := Lib.hid (lives_at ((HLV'.out 0 hbn).below HB2.out))
          have HYN := Lib.hid (like_n HF.out.symm)
          have HCN := Lib.hid (show (b.kid 0).n + E ≤ 2000 by have h1 := restC_pop bs' hbn; have h2 := dsc_split (b.kid 0); have h3 := HRE.out; omega)
          obtain ⟨xl1, xl3, xl4⟩ := HLX.out
          obtain ⟨yl1, yl3, yl4⟩ := HLY.out
          obtain ⟨xg, xoff, hxa, hxg, hxat⟩ := xl3 hxp
          obtain ⟨yg, yoff, hya, hyg, hyat⟩ := yl3 (by rw [HYN.out]; exact hxp)
          rw [hxa] at x7
          rw [hya, HYN.out] at y7
          have HKEY := Lib.hid (fun (v3 : Value) (w3 : World) (hown3 : w3.ownsRow (w.heap.size + 4) 51 2 v3 (L + (tailC b).length + 1) (flatC bs' ++ flatC (tailC b) ++ [.slice (some ⟨xg, xoff, none⟩) (b.kid 0).n (b.kid 0).cap, .slice (some ⟨yg, yoff, none⟩) (b.kid 0).n (b.kid' 0).cap])) (hb3 : Below (w.heap.size + 4) w2 w3) =>
            smI_kids (c := ⟨xg, xoff, (b.kid 0).cap, (b.kid 0).kid, (b.kid 0).n, yg, yoff, (b.kid' 0).cap, (b.kid' 0).kid⟩) hbn HBR.out HPEN.out HRE.out HTO.out HF.out.symm rfl rfl rfl
              ⟨hxp, xl1, by show (b.kid 0).n ≤ _; rw [← HYN.out]; exact yl1, hxg, hyg, fun i hi => (hxat i hi).below hxg hb3, fun i hi => (hyat i (by rw [HYN.out]; exact hi)).below hyg hb3, fun i hi => (xl4 i hi).below hb3, fun i hi => (yl4 i (by rw [HYN.out]; exact hi)).below hb3⟩ (by rw [hLL]; exact hown3) (HB2.out.trans hb3))
          have hne2 : ((b.kid 0).n : Int) ≤ 2000 := by have := HCN.out; omega
          have hE2 : (E : Int) ≤ 2000 := by have := HCN.out; omega
          have HL7 := Lib.hid (show L + (tailC b).length ≤ 6000 by have := HL5.out; unfold tailC; split <;> simp <;> omega)
          have hOw := HOWN2.out
          clear hxat hyat xl4 yl4 xl3 yl3 xl1 yl1 hxa hya hxn
          go_wp2_with (first | (at_builtin; refine wpList_append_own _ rfl _ _ 52 rfl (w.heap.size + 4) 51 i0 _ 2 48 Tryd.underlying52 hi hz0 hz1 hz2 rfl (by decide) _ _ _ rfl (hOw.alloc _) ⟨w2.heap.size, 0, none⟩ 1 1 [.slice (some ⟨xg, xoff, none⟩) (b.kid 0).n (b.kid 0).cap, .slice (some ⟨yg, yoff, none⟩) (b.kid 0).n (b.kid' 0).cap] rfl rfl ?c1 ?c2 ?c3 ?c4 ?c5 ?_))
          case c1 => exact World.news_of_block (cs := #[.slice (some ⟨xg, xoff, none⟩) (b.kid 0).n (b.kid 0).cap, .slice (some ⟨yg, yoff, none⟩) (b.kid 0).n (b.kid' 0).cap]) (t := 51) (fr := (0, 0)) (heap_alloc_new w2 _)
          case c2 => intro u hu; simp at hu; rcases hu with rfl | rfl <;> rfl
          case c3 => have := HL7.out; unfold maxLen; omega
          case c4 => have := HL7.out; omega
          case c5 => simp; omega
          · intro v3 w3 hown3 hgrow _
            have hb3 := grown_below (hOw.alloc _) (by simp; omega) hgrow
            have hb4 : Below (w.heap.size + 4) w2 w3 := ((Below.refl _ w2).alloc hs2 _).trans hb3
            obtain ⟨j1, j2⟩ := HKEY.out v3 w3 (by rw [List.append_assoc]; exact hown3) hb4
            have HJ1 := Lib.hid j1
            have HJ2 := Lib.hid j2
            have hbF := hbB.trans (hb4.mono (by omega))
            clear j1 j2 hown3 hgrow hb3
            go_wp2
            go_roundg (pendC (bs' ++ tailC b ++ [⟨xg, xoff, (b.kid 0).cap, (b.kid 0).kid, (b.kid 0).n, yg, yoff, (b.kid' 0).cap, (b.kid' 0).kid⟩]))
            case measure => rw [HPE.out]; exact HJ2.out
            case rel => exact ⟨E + (b.kid 0).n, rfl, Lib.hid HJ1.out, Nat.le_trans hs2 hb4.size, hbF⟩
end Go.Proofs.YtadiphijfbpcnaaDoor
