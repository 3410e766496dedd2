/- The landed Of of layer 9. -/
import Derived.Test.YtbahadgcmaabcaaKi
import Derived.Test.YtbahadgcmaabcaaKb
namespace Go.Proofs.Ytbahadgcmaabcaa
open Go.RowKit Go
theorem OfS.kt {w : World} {X : Array Value} {W W' : World} (h : OfS w X W) (hk : KT w.heap.size W W') : OfS w X W' :=
  ⟨hk.heap h.bx (by decide) (by decide) (by decide), hk.heap h.br (by decide) (by decide) (by decide), h.bel.trans (hk.below h.bel.size)⟩
theorem bl_none {B : Nat} {w : World} {p : Nat} (hp : w.heap[p]? = some (.cells #[.slice none 0 0, .slice none 0 0] 56 (0, 0))) (hB : B ≤ p) : Bl B w p Gs.none :=
  ⟨Gs.ok_none, _, _, fun _ => undef, fun _ => [], ⟨hp, hB, World.ownsRow_nil _ _ _ _, World.ownsRow_nil _ _ _ _, fun i hi => absurd hi (Nat.not_lt_zero i)⟩, fun i hi => absurd hi (Nat.not_lt_zero i)⟩
/-- What a builder holds that had nothing, and got these places. -/
theorem bl_fin {B : Nat} {w : World} {p : Nat} {P : Pl} (hP : P.Ok) {vf vl : Value} (h : Bl B w p (Gs.none.add P)) (hv : PtV w (.agg #[vf, vl, .bool P.nu]) (P.part 0)) : ∃ a1 c1 a4 c4, w.heap[p]? = some (.cells #[.slice a1 P.n c1, .slice a4 P.n c4] 56 (0, 0)) ∧ PlV w (plV (.slice a1 P.n c1) vf vl (.slice a4 P.n c4) P.nu) P := by
  rw [Gs.none_add] at h
  obtain ⟨_, sv, fv, vs, F, hX, hF⟩ := h
  obtain ⟨lf, ll, i1, s1, i2, s2⟩ := hv.lists
  obtain ⟨a1, c1, rfl⟩ := row_slice hX.sets
  obtain ⟨a4, c4, rfl⟩ := row_slice hX.rows
  exact ⟨a1, c1, a4, c4, hX.box, _, _, _, _, lf, ll, vs, F, rfl, ⟨sl_row hX.sets, i1, s1.congr fun i => sh_zero _ i, i2, s2.congr fun i => sh_zero _ i, rl_row hX.rows, fun i hi => ⟨hX.lists i hi, hF i hi⟩, hP⟩⟩
set_option maxRecDepth 100000 in
set_option maxHeartbeats 2000000 in
theorem placeOf_any (t : Tr) (w : World) (hL : Lives w w.heap.size t) : Calls Try.prog 13 #[t.val] w (OfE w t) := by
  have HL := Lib.hid hL
  clear hL
  show Calls Try.prog 13 #[nodeV t.k t.s t.lo t.hi (.slice t.a t.n t.cap)] w _
  have HS0 := Lib.hid (OfS.start w (row8 t.k t.s t.lo t.hi (.slice t.a t.n t.cap)))
  have HR := Lib.hid (right_any t _ (HL.out.now (alloc2_below w (.cells (row8 t.k t.s t.lo t.hi (.slice t.a t.n t.cap)) 27) (.cells pl0 40))))
  go_enter Try.func13, Try.ntmps13
  go_wp2_with fail
  refine HR.out.mono ?_
  rintro e w2 ⟨rfl, hb⟩
  have HS2 := Lib.hid (HS0.out.below hb)
  clear hb HS0 HR
  obtain ⟨r, hr⟩ : ∃ r, r = rightB t := ⟨_, rfl⟩
  rw [← hr]
  have HRR := Lib.hid hr
  clear hr
  have HZ2 := HS2.out.bx
  have HY2 := HS2.out.br
  obtain ⟨x0, x1, x2, x3, x4, x5, x6, x7⟩ := cell8 HZ2
  obtain ⟨y0, y1, y2, y3, y4⟩ := cell5 HY2
  have f0 := frozen4 HY2 0
  have f1 := frozen4 HY2 1
  have f2 := frozen4 HY2 2
  have f3 := frozen4 HY2 3
  have f4 := frozen4 HY2 4
  clear HZ2 HY2
  cases r with
  | false =>
    have HF := Lib.hid (HS2.out.fin (P := Pl.nil false) (plV_nil w2 false))
    go_wp2
    obtain ⟨v, hv, hP, hb⟩ := HF.out.2
    refine bodyPost_ret (ret5t Try.results13 rfl rfl HF.out.1) rfl ⟨_, by rw [← HRR.out]; rfl, ?_, hb⟩
    rw [← HRR.out, if_neg (by decide)]
    injection hv with hv
    rw [← hv] at hP
    exact hP
  | true =>
    have hf := right_fit HRR.out.symm
    have hc : cnt t ≤ 2000 := by
      have := HRR.out.symm
      simp only [rightB, Bool.and_eq_true, decide_eq_true_eq] at this
      omega
    have hb3 := alloc_below w2 (.cells #[.slice none 0 0, .slice none 0 0] 56)
    have HS3 := Lib.hid (HS2.out.below hb3)
    have HAD := Lib.hid (badd_any w.heap.size w2.heap.size t hf.1 hc hf.2 (w2.alloc (.cells #[.slice none 0 0, .slice none 0 0] 56)) Gs.none (bl_none (heap_alloc_new _ _) HS2.out.bel.size) HS3.out.bel.size (HL.out.below HS3.out.bel) (by rw [plT_n _ hf.1]; have := hf.2; show 0 + sz t ≤ 1000; omega))
    have HPO := Lib.hid (plT_ok t)
    obtain ⟨P, hP⟩ : ∃ P, P = plT t := ⟨_, rfl⟩
    have HPE := Lib.hid hP
    rw [← hP] at HAD HPO
    clear hf hc hb3 hP
    obtain ⟨v0, v1, v2, v3, v4, v5, v6, v7⟩ := cell8 HS3.out.bx
    go_wp2_with fail
    refine HAD.out.mono ?_
    rintro e w4 ⟨v, rfl, hP, hG, hk⟩
    have HS4 := Lib.hid (HS3.out.kt hk)
    obtain ⟨a2, n2, c2, a3, n3, c3, rfl⟩ := hP.forms
    obtain ⟨a1, c1, a4, c4, hq, hV⟩ := bl_fin HPO.out hG hP
    have hb5 := alloc_below w4 (.cells #[.slice a2 n2 c2, .slice a3 n3 c3, .bool P.nu] 58)
    have HS5 := Lib.hid (HS4.out.below hb5)
    have HQ5 := Lib.hid ((hb5.block _ (lt_heap hq)).trans hq)
    have HV5 := Lib.hid (hV.below hb5)
    have HO5 := Lib.hid (heap_alloc_new w4 (.cells #[.slice a2 n2 c2, .slice a3 n3 c3, .bool P.nu] 58))
    clear hP hG hk hq hV hb5 v0 v1 v2 v3 v4 v5 v6 v7 x0 x1 x2 x3 x4 x5 x6 x7 y0 y1 y2 y3 y4 f0 f1 f2 f3 f4
    go_upto_region 5 with fail
    obtain ⟨w5, hw⟩ : ∃ x, x = w4.alloc (.cells #[.slice a2 n2 c2, .slice a3 n3 c3, .bool P.nu] 58) := ⟨_, rfl⟩
    obtain ⟨o, ho⟩ : ∃ o, o = w4.heap.size := ⟨_, rfl⟩
    rw [← hw] at HS5 HQ5 HV5
    rw [← hw, ← ho] at HO5
    rw [← hw, ← ho]
    clear hw ho
    have HF := Lib.hid (HS5.out.fin HV5.out)
    have HY5 := HS5.out.br
    obtain ⟨y0, y1, y2, y3, y4⟩ := cell5 HY5
    have f0 := frozen4 HY5 0
    have f1 := frozen4 HY5 1
    have f2 := frozen4 HY5 2
    have f3 := frozen4 HY5 3
    have f4 := frozen4 HY5 4
    obtain ⟨z0, z1, z2⟩ := cell3 HO5.out
    have u0 : w5.cell? ⟨w2.heap.size, 0, none⟩ = some (.slice a1 P.n c1) := cell_of_row _ _ 0 _ _ _ HQ5.out
    have u1 : w5.cell? ⟨w2.heap.size, 1, none⟩ = some (.slice a4 P.n c4) := cell_of_row _ _ 1 _ _ _ HQ5.out
    clear HY5
    go_wp2
    obtain ⟨v, hv, hP, hb⟩ := HF.out.2
    refine bodyPost_ret (ret5t Try.results13 rfl rfl HF.out.1) rfl ⟨_, by rw [← HRR.out]; rfl, ?_, hb⟩
    rw [← HRR.out, if_pos rfl, ← HPE.out]
    injection hv with hv
    rw [← hv] at hP
    exact hP
end Go.Proofs.Ytbahadgcmaabcaa
/- The law's same of layer 9. -/
namespace Go.Proofs.Ytbahadgcmaabcaa
open Go.RowKit Go
/-- A box of places, in a world that has gone on. -/
theorem pbox {W W' : World} {q : Nat} {cs : Array Value} (h : W.heap[q]? = some (.cells cs 40 (0, 0))) (hb : Below W.heap.size W W') : W'.heap[q]? = some (.cells cs 40 (0, 0)) := (hb.block _ (lt_heap h)).trans h
set_option maxRecDepth 100000 in
set_option maxHeartbeats 2000000 in
theorem placesame_any (t : Tr) (w : World) (hL : Lives w w.heap.size t) : Calls Try.prog 10 #[t.val] w fun e w' => e = .returned (.bool true) ∧ Below w.heap.size w w' := by
  have hb1 := alloc_below w (.cells (row8 t.k t.s t.lo t.hi (.slice t.a t.n t.cap)) 27)
  have HP1 := Lib.hid (placeOf_any t _ (hL.now hb1))
  have HD1 : Hid (∀ W, Below w.heap.size w W → Calls Try.prog 21 #[t.val] W (OfE W t)) := Lib.hid fun W h => refOf_any9 t W (hL.now h)
  have HX1 := Lib.hid (heap_alloc_new w (.cells (row8 t.k t.s t.lo t.hi (.slice t.a t.n t.cap)) 27))
  have HB1 := Lib.hid hb1
  have HN : Hid ((if rightB t then plT t else Pl.nil false).n ≤ 900) := Lib.hid (by
    by_cases h : rightB t = true
    · rw [if_pos h, plT_n _ (right_fit h).1]; exact (right_fit h).2
    · rw [if_neg h]; exact Nat.zero_le _)
  unfold OfE at HP1 HD1
  obtain ⟨P, hP⟩ : ∃ P, P = if rightB t then plT t else Pl.nil false := ⟨_, rfl⟩
  obtain ⟨E, hE⟩ : ∃ E : Int, E = if rightB t then 0 else 1 := ⟨_, rfl⟩
  rw [← hP] at HP1 HD1 HN
  rw [← hE] at HP1 HD1
  clear hP hE hL hb1
  obtain ⟨x0, x1, x2, x3, x4, x5, x6, x7⟩ := cell8 HX1.out
  show Calls Try.prog 10 #[nodeV t.k t.s t.lo t.hi (.slice t.a t.n t.cap)] w _
  go_enter Try.func10, Try.ntmps10
  go_wp2_with fail
  refine HP1.out.mono ?_
  rintro e w2 ⟨v, rfl, hV, hb⟩
  obtain ⟨a1, c1, a2, n2, c2, a3, n3, c3, a4, c4, rfl⟩ := hV.forms
  have hb3 := alloc_below w2 (.cells (pl5 (.slice a1 P.n c1) (.slice a2 n2 c2) (.slice a3 n3 c3) (.slice a4 P.n c4) P.nu) 40)
  have hbb := hb.trans (hb3.mono hb.size)
  have HX3 := Lib.hid ((hbb.block _ (lt_heap HX1.out)).trans HX1.out)
  have HB3 := Lib.hid (HB1.out.trans (hbb.mono HB1.out.size))
  have HV3 := Lib.hid (hV.below hb3)
  have HQ3 := Lib.hid (heap_alloc_new w2 (.cells (pl5 (.slice a1 P.n c1) (.slice a2 n2 c2) (.slice a3 n3 c3) (.slice a4 P.n c4) P.nu) 40))
  clear hV hb hb3 hbb x0 x1 x2 x3 x4 x5 x6 x7
  go_upto_region 2 with fail
  obtain ⟨w3, hw⟩ : ∃ x, x = w2.alloc (.cells (pl5 (.slice a1 P.n c1) (.slice a2 n2 c2) (.slice a3 n3 c3) (.slice a4 P.n c4) P.nu) 40) := ⟨_, rfl⟩
  obtain ⟨q, hq⟩ : ∃ q, q = w2.heap.size := ⟨_, rfl⟩
  rw [← hw] at HX3 HB3 HV3
  rw [← hw, ← hq] at HQ3
  rw [← hw, ← hq]
  clear hw hq
  obtain ⟨x0, x1, x2, x3, x4, x5, x6, x7⟩ := cell8 HX3.out
  go_wp2_with fail
  refine (HD1.out w3 HB3.out).mono ?_
  rintro e w4 ⟨v, rfl, hV, hb⟩
  obtain ⟨b1, d1, b2, m2, d2, b3, m3, d3, b4, d4, rfl⟩ := hV.forms
  have hb5 := alloc_below w4 (.cells (pl5 (.slice b1 P.n d1) (.slice b2 m2 d2) (.slice b3 m3 d3) (.slice b4 P.n d4) P.nu) 40)
  have hbb := hb.trans (hb5.mono hb.size)
  have HB5 := Lib.hid (HB3.out.trans (hbb.mono HB3.out.size))
  have HV5 := Lib.hid (HV3.out.below hbb)
  have HQ5 := Lib.hid ((hbb.block _ (lt_heap HQ3.out)).trans HQ3.out)
  have HU5 := Lib.hid (hV.below hb5)
  have HO5 := Lib.hid (heap_alloc_new w4 (.cells (pl5 (.slice b1 P.n d1) (.slice b2 m2 d2) (.slice b3 m3 d3) (.slice b4 P.n d4) P.nu) 40))
  clear hV hb hb5 hbb x0 x1 x2 x3 x4 x5 x6 x7
  go_upto_region 3 with fail
  obtain ⟨w5, hw⟩ : ∃ x, x = w4.alloc (.cells (pl5 (.slice b1 P.n d1) (.slice b2 m2 d2) (.slice b3 m3 d3) (.slice b4 P.n d4) P.nu) 40) := ⟨_, rfl⟩
  obtain ⟨o, ho⟩ : ∃ q, q = w4.heap.size := ⟨_, rfl⟩
  rw [← hw] at HB5 HV5 HQ5 HU5
  rw [← hw, ← ho] at HO5
  rw [← hw, ← ho]
  clear hw ho
  obtain ⟨y0, y1, y2, y3, y4⟩ := cell5 HQ5.out
  obtain ⟨z0, z1, z2, z3, z4⟩ := cell5 HO5.out
  go_wp2_with fail
  refine (refSame_any9 P _ _ w5 HV5.out HU5.out HN.out).mono ?_
  rintro e w6 ⟨rfl, hb⟩
  have HB6 := Lib.hid (HB5.out.trans (hb.mono HB5.out.size))
  clear hb y0 y1 y2 y3 y4 z0 z1 z2 z3 z4
  go_wp2
  go_ret
  exact ⟨ret_bool (by simp), HB6.out⟩
end Go.Proofs.Ytbahadgcmaabcaa
