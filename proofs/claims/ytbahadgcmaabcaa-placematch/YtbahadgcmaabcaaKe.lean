/- The builder's addLoop, addCopies. -/
import Derived.Test.YtbahadgcmaabcaaKd
namespace Go.Proofs.Ytbahadgcmaabcaa
open Go.RowKit Go
theorem AcS.start2 {B p : Nat} {G : Gs} {w : World} (h : Bl B w p G) (X : Obj) : AcS B w p G (w.heap.size + 1) ((w.alloc X).alloc (.cells part0 58)) :=
  ⟨(heap2 _ _ _).2, Nat.le_succ _, KT.of (alloc2_below _ _ _), h.below (alloc2_below _ _ _)⟩
/-- A row of copies of one pattern. -/
theorem KRow.rep {B : Nat} {w : World} {base N : Nat} {v : Value} {t : Tr} (h : w.ownsRow base 27 8 v N (flatT (List.replicate N t))) (hL : Lives w B t) : ∃ a cap, v = .slice a N cap ∧ KRow B w a N cap (fun _ => t) := by
  have h' := h
  obtain ⟨_, ⟨rfl, h0⟩ | ⟨g, cap, cur, rfl, hg, hh, h1, h2, h3, h4⟩⟩ := h
  · exact ⟨none, 0, by rw [h0], by omega, by unfold maxLen; omega, fun hp => by omega, fun i hi => hL⟩
  · refine ⟨_, cap, rfl, h1, h2, fun hp => ⟨g, 0, rfl, lt_heap hh, Or.inr ?_, fun i hi => ?_⟩, fun i hi => hL⟩
    · obtain ⟨_, cs, h⟩ := own_type h' g rfl
      exact not_isB h (by decide) (by decide) (by decide)
    · have := at8_of (w := w) (g := g) (off := 0) (L := List.replicate N t) (h'.cells (g := g) rfl) (i := i) (by simpa using hi)
      rwa [show (List.replicate N t).getD i .nul = t by simp [List.getD_eq_getElem?_getD, hi]] at this
set_option maxRecDepth 100000 in
set_option maxHeartbeats 4000000 in
theorem addLoop_any (B p : Nat) (G : Gs) (t : Tr) (w : World) (hadd : AddC B p t) (hbl : Bl B w p G) (hB : B ≤ w.heap.size) (hL : Lives w B t) (hn : G.n + (plT t).n ≤ 1000) : Calls Try.prog 57 #[.pointer (some ⟨p, 0, none⟩), t.val] w (AddE B w p G (plT t).loop) := by
  have HS0 := Lib.hid (AcS.start2 hbl (.cells (row8 t.k t.s t.lo t.hi (.slice t.a t.n t.cap)) 27))
  have hb2 := alloc2_below w (.cells (row8 t.k t.s t.lo t.hi (.slice t.a t.n t.cap)) 27) (.cells part0 58)
  have HAD := Lib.hid (hadd ((w.alloc (.cells (row8 t.k t.s t.lo t.hi (.slice t.a t.n t.cap)) 27)).alloc (.cells part0 58)) G (hbl.below hb2) (Nat.le_trans hB hb2.size) (hL.below (hb2.mono hB)) hn)
  have HPO := Lib.hid (plT_ok t)
  have HN := Lib.hid hn
  obtain ⟨C, hC⟩ : ∃ C, C = plT t := ⟨_, rfl⟩
  rw [← hC] at HAD HPO HN ⊢
  obtain ⟨x0, x1, x2, x3, x4, x5, x6, x7⟩ := cell8 (heap2 w (.cells (row8 t.k t.s t.lo t.hi (.slice t.a t.n t.cap)) 27) (.cells part0 58)).1
  clear hadd hbl hB hL hn hb2 hC
  show Calls Try.prog 57 #[.pointer (some ⟨p, 0, none⟩), nodeV t.k t.s t.lo t.hi (.slice t.a t.n t.cap)] w _
  go_enter Try.func57, Try.ntmps57
  go_wp2_with fail
  refine HAD.out.mono ?_
  rintro e w3 ⟨v, rfl, hP, hG, hk⟩
  have HS3 := Lib.hid (HS0.out.go hk hG)
  obtain ⟨vf, vl, lf, ll, rfl, i1, s1, i2, s2⟩ := hP
  have HI1 := Lib.hid i1
  have HI2 := Lib.hid i2
  obtain ⟨a1, c1, rfl, _⟩ := i1
  obtain ⟨a2, c2, rfl, _⟩ := i2
  have HS := Lib.hid (And.intro s1 s2)
  have hb4 := alloc_below w3 (.cells #[.slice a1 lf.length c1, .slice a2 ll.length c2, .bool C.nu] 58)
  have HS4 := Lib.hid (HS3.out.below hb4)
  have HQ4 := Lib.hid (heap_alloc_new w3 (.cells #[.slice a1 lf.length c1, .slice a2 ll.length c2, .bool C.nu] 58))
  have HJ1 := Lib.hid (HI1.out.below hb4)
  have HJ2 := Lib.hid (HI2.out.below hb4)
  clear hb4 hk hG s1 s2 HS3 HI1 HI2 x0 x1 x2 x3 x4 x5 x6 x7
  go_upto_region 2 with fail
  obtain ⟨w4, hw⟩ : ∃ x, x = w3.alloc (.cells #[.slice a1 lf.length c1, .slice a2 ll.length c2, .bool C.nu] 58) := ⟨_, rfl⟩
  obtain ⟨q, hq⟩ : ∃ q, q = w3.heap.size := ⟨_, rfl⟩
  rw [← hw] at HS4 HJ1 HJ2
  rw [← hw, ← hq] at HQ4
  rw [← hw, ← hq]
  clear hw hq
  have HLK := Lib.hid (link_any B p (G.add C) ll lf (sh C.la G.n) (sh C.fi G.n) _ _ w4 HS4.out.bl (by have := HN.out; exact this) HJ2.out HS.out.2 (Pl.part_le HPO.out G.n _ (Nat.le_refl _)).la HJ1.out HS.out.1 (Pl.part_le HPO.out G.n _ (Nat.le_refl _)).fi)
  obtain ⟨y0, y1, y2⟩ := cell3 HQ4.out
  go_wp2_with fail
  refine HLK.out.mono ?_
  rintro e w5 ⟨rfl, hG5, hk5⟩
  rw [Gs.loop_link] at hG5
  have HS5 := Lib.hid (HS4.out.go hk5 hG5)
  have hq5 := hk5.heap HQ4.out (by decide) (by decide) (by decide)
  have HP5 : Hid (PtV w5 (.agg #[.slice a1 lf.length c1, .slice a2 ll.length c2, .bool C.nu]) (C.loop.part G.n)) := Lib.hid ⟨_, _, _, _, rfl, HJ1.out.kt hk5, HS.out.1, HJ2.out.kt hk5, HS.out.2⟩
  have HF := Lib.hid (HS5.out.fin (P := C.loop) rfl HP5.out rfl)
  have hbr := HS5.out.br
  clear y0 y1 y2 hG5 hk5
  obtain ⟨y0, y1, y2⟩ := cell3 hq5
  obtain ⟨l0, l1, l2⟩ := cell3 hbr
  have m0 := frozen4 hbr 0
  have m1 := frozen4 hbr 1
  have m2 := frozen4 hbr 2
  clear hq5 hbr
  go_wp2
  exact bodyPost_ret (ret3c Try.results57 rfl HF.out.1) rfl HF.out.2
set_option maxRecDepth 100000 in
set_option maxHeartbeats 4000000 in
theorem addCopies_any (B p : Nat) (G : Gs) (t : Tr) (N : Nat) (w : World) (hN : N ≤ 20) (hadd : AddC B p t) (hbl : Bl B w p G) (hB : B ≤ w.heap.size) (hL : Lives w B t) (hn : G.n + ((plT t).pows N).n ≤ 1000) : Calls Try.prog 56 #[.pointer (some ⟨p, 0, none⟩), t.val, .int .i64 (N : Int)] w (AddE B w p G ((plT t).pows N)) := by
  have HS0 := Lib.hid (AcS.start2 hbl (.cells (row8 t.k t.s t.lo t.hi (.slice t.a t.n t.cap)) 27))
  have hb2 := alloc2_below w (.cells (row8 t.k t.s t.lo t.hi (.slice t.a t.n t.cap)) 27) (.cells part0 58)
  have HAD := Lib.hid hadd
  have HB := Lib.hid hB
  have HL := Lib.hid hL
  have HN := Lib.hid hn
  obtain ⟨w3, hw3⟩ : ∃ x, x = ((w.alloc (.cells (row8 t.k t.s t.lo t.hi (.slice t.a t.n t.cap)) 27)).alloc (.cells part0 58)).alloc (.cells (row8 t.k t.s t.lo t.hi (.slice t.a t.n t.cap)) 27) := ⟨_, rfl⟩
  have hb3 := alloc_below ((w.alloc (.cells (row8 t.k t.s t.lo t.hi (.slice t.a t.n t.cap)) 27)).alloc (.cells part0 58)) (.cells (row8 t.k t.s t.lo t.hi (.slice t.a t.n t.cap)) 27)
  have hg3 := heap_alloc_new ((w.alloc (.cells (row8 t.k t.s t.lo t.hi (.slice t.a t.n t.cap)) 27)).alloc (.cells part0 58)) (.cells (row8 t.k t.s t.lo t.hi (.slice t.a t.n t.cap)) 27)
  rw [← hw3] at hb3 hg3
  have HS3 := Lib.hid (HS0.out.below hb3)
  rw [show ((w.alloc (.cells (row8 t.k t.s t.lo t.hi (.slice t.a t.n t.cap)) 27)).alloc (.cells part0 58)).heap.size = w.heap.size + 1 + 1 by simp] at hg3
  have HRP := Lib.hid (repeat_any t (w.heap.size + 1 + 1) N w3 hN hg3)
  have HW3 := Lib.hid hw3
  obtain ⟨x0, x1, x2, x3, x4, x5, x6, x7⟩ := cell8 (heap2 w (.cells (row8 t.k t.s t.lo t.hi (.slice t.a t.n t.cap)) 27) (.cells part0 58)).1
  clear hadd hbl hB hL hn hb2 hb3 hg3 HS0
  subst hw3
  show Calls Try.prog 56 #[.pointer (some ⟨p, 0, none⟩), nodeV t.k t.s t.lo t.hi (.slice t.a t.n t.cap), .int .i64 (N : Int)] w _
  go_enter Try.func56, Try.ntmps56
  go_wp2_with fail
  refine HRP.out.mono ?_
  rintro e w4 ⟨v, rfl, hown, hb4⟩
  have HS4 := Lib.hid (HS3.out.below hb4)
  obtain ⟨a, cap, rfl, hrow⟩ := KRow.rep hown (HL.out.below (HS4.out.kt.below HB.out))
  have HCT := Lib.hid (addCat_any B p G a N cap (fun _ => t) w4 HS4.out.bl (Nat.le_trans HB.out HS4.out.kt.size) hrow (fun _ _ => HAD.out) HN.out)
  clear hown hb4 hrow x0 x1 x2 x3 x4 x5 x6 x7 HRP HS3 HW3
  go_wp2_with fail
  refine HCT.out.mono ?_
  rintro e w5 ⟨v, rfl, hP, hG, hk⟩
  have HS5 := Lib.hid (HS4.out.go hk hG)
  have HP := Lib.hid hP
  obtain ⟨a1, n1, c1, a2, n2, c2, rfl⟩ := hP.forms
  have HF := Lib.hid (HS5.out.fin (P := (plT t).pows N) rfl HP.out rfl)
  have hbr := HS5.out.br
  obtain ⟨l0, l1, l2⟩ := cell3 hbr
  have m0 := frozen4 hbr 0
  have m1 := frozen4 hbr 1
  have m2 := frozen4 hbr 2
  clear hbr hG hk hP
  go_wp2
  exact bodyPost_ret (ret3c Try.results56 rfl HF.out.1) rfl HF.out.2
end Go.Proofs.Ytbahadgcmaabcaa
