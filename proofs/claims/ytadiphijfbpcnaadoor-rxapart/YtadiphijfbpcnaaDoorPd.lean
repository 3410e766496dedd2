/- The law RxApart: the walk. -/
import Derived.Test.YtadiphijfbpcnaaDoorPc
import Derived.Test.YtadiphijfbpcnaaDoorMg
namespace Go.Proofs.YtadiphijfbpcnaaDoor
open Go.RowKit
theorem setT_same {s s' : Nat → Int} (h : eqS s s' = true) : setT s = setT s' := by
  have : hasI s = hasI s' := funext fun b => hasI_congr h b
  unfold setT oneB runsS runsN
  rw [this]
theorem same_like {t u : Tr} (h : sameT t u = true) : t.k = u.k ∧ eqS t.s u.s = true ∧ t.lo = u.lo ∧ t.hi = u.hi ∧ t.n = u.n ∧ ∀ i, i < t.n → sameT (t.kid i) (u.kid i) = true := by
  rw [sameT_eq, Bool.and_eq_true] at h
  have h1 := h.1
  simp only [likeB, Bool.and_eq_true, decide_eq_true_eq] at h1
  exact ⟨h1.1, h1.2.1, h1.2.2.1, h1.2.2.2.1, h1.2.2.2.2, fun i hi => allTo_iff.1 h.2 i hi⟩
theorem txt_eq {t : Tr} (h : Ok t) : txt t = if t.k = 1 then [40, 41] else if t.k = 2 then setT t.s else catTo (pieceT t.k t.kid) t.n ++ (if t.k = 5 then countsT t.lo t.hi else []) := by
  cases t with
  | nul => rcases h.cases with q | q | q | q <;> simp [Tr.k] at q
  | node k s lo hi a n cap kid => rw [txt]; rfl
theorem txt_same : ∀ (N : Nat) {t u : Tr}, cnt t ≤ N → Ok t → Ok u → sameT t u = true → txt t = txt u := by
  intro N
  induction N with
  | zero => intro t u h; have := cnt_pos t; omega
  | succ N ih =>
    intro t u hN ht hu h
    obtain ⟨hk, hs, hl, hh, hn, hkid⟩ := same_like h
    rw [txt_eq ht, txt_eq hu, ← hk, ← hl, ← hh, ← hn, setT_same hs]
    congr 2
    congr 1
    refine catTo_congr _ fun i hi => ?_
    have hsi := hkid i hi
    have := ih (Nat.le_of_lt_succ (Nat.lt_of_lt_of_le (kid_lt hi) hN)) (ht.kid hi) (hu.kid (by omega)) hsi
    unfold pieceT
    rw [this, (same_like hsi).1]
/-- Right patterns have the same text if and only if they are the same. -/
theorem txt_iff {t u : Tr} (ht : Ok t) (hu : Ok u) : decide (txt t = txt u) = sameT t u := by
  by_cases h : txt t = txt u
  · rw [decide_eq_true h, txt_inj ht hu h]
  · rw [decide_eq_false h]
    cases q : sameT t u
    · rfl
    · exact absurd (txt_same _ (Nat.le_refl _) ht hu q) h
theorem str_eq (l m : List UInt8) : (l.toArray.toList == m.toArray.toList) = decide (l = m) := by
  cases h : decide (l = m)
  · have := of_decide_eq_false h; simpa using this
  · have := of_decide_eq_true h; simpa using this
theorem printV_right {t : Tr} (h : rightB t = true) : printV t = .tuple #[.string ⟨(txt t).toArray⟩, .int .i64 0] := by unfold printV; rw [if_pos h]
set_option maxRecDepth 100000 in
set_option maxHeartbeats 4000000 in
theorem apart_walk (w : World) (a : Option Addr) (n cap : Nat) (F : Nat → Int) (a' : Option Addr) (n' cap' : Nat) (F' : Nat → Int) (h : ByteRow w a n F) (h' : ByteRow w a' n' F') (hF : ∀ i, 0 ≤ F i ∧ F i < 256) (hF' : ∀ i, 0 ≤ F' i ∧ F' i < 256) (hn : n ≤ cap) (hc : cap ≤ maxLen) (hn' : n' ≤ cap') (hc' : cap' ≤ maxLen) :
    Calls Tryd.prog 7 #[.slice a n cap, .slice a' n' cap'] w fun e w' => e = .returned (.bool true) ∧ Below w.heap.size w w' := by
  have H1 := Lib.hid (fun w1 (hb : Below w.heap.size w w1) => made_any w1 a n cap F (h.below hb) hF hn hc)
  have H2 := Lib.hid (fun w1 (hb : Below w.heap.size w w1) => made_any w1 a' n' cap' F' (h'.below hb) hF' hn' hc')
  clear h h' hF hF' hn hc hn' hc'
  go_enter Tryd.func7, Tryd.ntmps7
  go_wp2_with fail
  refine (awake_any _).mono ?_
  rintro e w0 ⟨rfl, hb0⟩
  go_wp2_with fail
  refine (H1.out w0 hb0).mono ?_
  rintro e w1 ⟨t, rfl, ot, st, ct, lt, hb1⟩
  have hB1 := hb0.trans (hb1.mono hb0.size)
  have RT := Lib.hid (printV_right (made_right ot st ct))
  have CT := Lib.hid (show cnt t ≤ 2000 by omega)
  have LT := Lib.hid lt
  have OT := Lib.hid (show Ok t from ⟨fit_of_ok ot, lt.wfT⟩)
  clear ot st ct lt hb0 hb1
  go_wp2_with fail
  refine (H2.out w1 hB1).mono ?_
  rintro e w2 ⟨u, rfl, ou, su, cu, lu, hb2⟩
  have RU := Lib.hid (printV_right (made_right ou su cu))
  have LT2 := Lib.hid (LT.out.now hb2)
  have LU := Lib.hid lu
  have HEQ := Lib.hid (txt_iff OT.out (show Ok u from ⟨fit_of_ok ou, lu.wfT⟩))
  have hB2 := hB1.trans (hb2.mono hB1.size)
  clear hB1 hb2 lu LT H1 H2 ou su cu OT
  obtain ⟨T1, hT1⟩ : ∃ T1, T1 = (txt t).toArray := ⟨_, rfl⟩
  obtain ⟨T2, hT2⟩ : ∃ T2, T2 = (txt u).toArray := ⟨_, rfl⟩
  rw [← hT1] at RT
  rw [← hT2] at RU
  have HD := Lib.hid (show ((⟨T1⟩ : ByteArray).toList == (⟨T2⟩ : ByteArray).toList) = sameT t u by rw [← HEQ.out, hT1, hT2, ByteArray.toList_eq, ByteArray.toList_eq]; exact str_eq _ _)
  clear hT1 hT2 HEQ
  go_wp2_with fail
  have HP0 := Lib.hid (heap_alloc2_old w2 (.cells (row8 t.k t.s t.lo t.hi (.slice t.a t.n t.cap)) 27) (.cells (row8 u.k u.s u.lo u.hi (.slice u.a u.n u.cap)) 27))
  have HQ0 := Lib.hid (heap_alloc2_new w2 (.cells (row8 t.k t.s t.lo t.hi (.slice t.a t.n t.cap)) 27) (.cells (row8 u.k u.s u.lo u.hi (.slice u.a u.n u.cap)) 27))
  have hb3 := alloc2_below w2 (.cells (row8 t.k t.s t.lo t.hi (.slice t.a t.n t.cap)) 27) (.cells (row8 u.k u.s u.lo u.hi (.slice u.a u.n u.cap)) 27)
  have hB3 := hB2.trans (hb3.mono hB2.size)
  have LT3 := Lib.hid (LT2.out.now hb3)
  have LU3 := Lib.hid (LU.out.now hb3)
  refine (print_any t _ LT3.out).mono ?_
  rintro e w4 ⟨rfl, hb4⟩
  rw [RT.out]
  have HP4 := Lib.hid ((hb4.block _ (Array.getElem?_eq_some_iff.1 HP0.out).1).trans HP0.out)
  have HQ4 := Lib.hid ((hb4.block _ (Array.getElem?_eq_some_iff.1 HQ0.out).1).trans HQ0.out)
  have hB4 := hB3.trans (hb4.mono hB3.size)
  have LT4 := Lib.hid (LT3.out.now hb4)
  have LU4 := Lib.hid (LU3.out.now hb4)
  clear hb3 hb4 HP0 HQ0 LT2 LU hB2 hB3 LT3 LU3 RT
  obtain ⟨b0, b1, b2, b3, b4, b5, b6, b7⟩ := cell8 HQ4.out
  go_wp2_with fail
  refine (print_any u _ LU4.out).mono ?_
  rintro e w5 ⟨rfl, hb5⟩
  rw [RU.out]
  have HP5 := Lib.hid ((hb5.block _ (Array.getElem?_eq_some_iff.1 HP4.out).1).trans HP4.out)
  have HQ5 := Lib.hid ((hb5.block _ (Array.getElem?_eq_some_iff.1 HQ4.out).1).trans HQ4.out)
  have hB5 := hB4.trans (hb5.mono hB4.size)
  have LT5 := Lib.hid (LT4.out.now hb5)
  have LU5 := Lib.hid (LU4.out.now hb5)
  clear hb5 HP4 HQ4 hB4 LT4 LU4 RU b0 b1 b2 b3 b4 b5 b6 b7
  obtain ⟨b0, b1, b2, b3, b4, b5, b6, b7⟩ := cell8 HQ5.out
  obtain ⟨a0, a1, a2, a3, a4, a5, a6, a7⟩ := cell8 HP5.out
  go_wp2_with fail
  refine (same_any t u w5 LT5.out LU5.out CT.out).mono ?_
  rintro e w6 ⟨rfl, hb6⟩
  have hB6 := hB5.trans (hb6.mono hB5.size)
  clear hb6 hB5 HP5 HQ5 LT5 LU5 a0 a1 a2 a3 a4 a5 a6 a7 b0 b1 b2 b3 b4 b5 b6 b7
  have hd := HD.out
  generalize sameT t u = b at *
  cases b
  · go_wp2
    go_ret
    exact ⟨rfl, hB6⟩
  · go_wp2
    go_ret
    exact ⟨rfl, hB6⟩
end Go.Proofs.YtadiphijfbpcnaaDoor
