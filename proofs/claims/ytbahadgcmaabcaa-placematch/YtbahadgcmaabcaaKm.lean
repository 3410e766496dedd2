/- The law's char; awake's pattern a(b|c)*, and its places. -/
import Derived.Test.YtbahadgcmaabcaaKk
import Derived.Test.YtbahadgcmaabcaaLc
import Derived.Test.YtbahadgcmaabcaaMf
namespace Go.Proofs.Ytbahadgcmaabcaa
open Go.RowKit Go
set_option maxRecDepth 100000 in
set_option maxHeartbeats 2000000 in
theorem char9_any (b : Int) (w : World) : Calls Try.prog 19 #[.int .i64 b] w fun e w' => e = .returned (nodeV 2 (sE b b) 0 0 (.slice none 0 0)) ∧ Below w.heap.size w w' := by
  obtain ⟨f, hf⟩ : ∃ f, f = sE b b := ⟨_, rfl⟩
  rw [← hf]
  have HOF := Lib.hid (fun w => (refof_any b b w).mono (fun e w' h => (show e = .returned (SV f) ∧ Below w.heap.size w w' from ⟨by rw [h.1, hf], h.2⟩)))
  clear hf
  go_enter Try.func19, Try.ntmps19
  go_wp2_with fail
  refine (HOF.out _).mono ?_
  rintro e w1 ⟨rfl, hb1⟩
  have hr : w1.heap[w.heap.size]? = some (.cells (row8 0 z0 0 0 (.slice none 0 0)) 27 (0, 0)) := box_kept hb1
  have hB := box_below hb1
  obtain ⟨d0, d1, d2, d3, d4, d5, d6, d7⟩ := cell8 hr
  have f0 := frozen_of_row _ _ 0 _ _ hr
  have f1 := frozen_of_row _ _ 1 _ _ hr
  have f2 := frozen_of_row _ _ 2 _ _ hr
  have f3 := frozen_of_row _ _ 3 _ _ hr
  have f4 := frozen_of_row _ _ 4 _ _ hr
  have f5 := frozen_of_row _ _ 5 _ _ hr
  have f6 := frozen_of_row _ _ 6 _ _ hr
  have f7 := frozen_of_row _ _ 7 _ _ hr
  have HR := Lib.hid (stored8 2 f 0 0 (.slice none 0 0) hr)
  clear hr hb1
  go_wp2
  refine bodyPost_ret (v := nodeV 2 f 0 0 (.slice none 0 0)) (ret8 Try.results19 rfl HR.out) rfl ⟨rfl, ?_⟩
  exact (((((((hB.setCell (by simp) _).setCell (by simp) _).setCell (by simp) _).setCell (by simp) _).setCell (by simp) _).setCell (by simp) _).setCell (by simp) _).setCell (by simp) _

def bcT (g h : Nat → Int) (q1 : Nat) : Tr := .node 4 z0 0 0 (some ⟨q1, 0, none⟩) 2 2 fun i => if i = 0 then leafT g else leafT h
def starT (g h : Nat → Int) (q1 q2 : Nat) : Tr := .node 5 z0 0 (-1) (some ⟨q2, 0, none⟩) 1 1 fun _ => bcT g h q1
def aw9G (f g h : Nat → Int) (q1 q2 q3 : Nat) : Tr := .node 3 z0 0 0 (some ⟨q3, 0, none⟩) 2 2 fun i => if i = 0 then leafT f else starT g h q1 q2
abbrev aw9 (q1 q2 q3 : Nat) : Tr := aw9G (sE 97 97) (sE 98 98) (sE 99 99) q1 q2 q3
theorem aw9_okG {f g h : Nat → Int} (hf : eqS f z0 = false) (hg : eqS g z0 = false) (hh : eqS h z0 = false) (q1 q2 q3 : Nat) : okT (aw9G f g h q1 q2 q3) 20 = true := by
  simp [aw9G, starT, bcT, okT, allTo, anyTo, fitsB, plainB, countsB, leafT, Tr.k, Tr.s, Tr.lo, Tr.hi, Tr.n, Tr.kid, eq_z0, hf, hg, hh]
theorem aw9_ok (q1 q2 q3 : Nat) : okT (aw9 q1 q2 q3) 20 = true := aw9_okG (ne_E (by omega) (by omega) (by omega)) (ne_E (by omega) (by omega) (by omega)) (ne_E (by omega) (by omega) (by omega)) q1 q2 q3
theorem aw9_cnt (q1 q2 q3 : Nat) : cnt (aw9 q1 q2 q3) = 6 := by simp [aw9, aw9G, starT, bcT, cnt, sumTo, leafT]
theorem aw9_sz (q1 q2 q3 : Nat) : sz (aw9 q1 q2 q3) = 3 := by
  simp [aw9, aw9G, starT, bcT, sz, sumTo, leafT, ownT, timT, repM, Tr.k, Tr.lo, Tr.hi]
  rfl
theorem aw9_right (q1 q2 q3 : Nat) : rightB (aw9 q1 q2 q3) = true := by
  simp [rightB, aw9_ok, aw9_cnt, aw9_sz]
theorem aw9_n (q1 q2 q3 : Nat) : (plT (aw9 q1 q2 q3)).n = 3 := by rw [plT_n _ (fit_of_ok (aw9_ok q1 q2 q3)), aw9_sz]
theorem three {p : Nat → Bool} {l : List Int} {q : Nat → Bool} (hl : IsL l p) (hq : ∀ i, 3 ≤ i → p i = q i) (h0 : p 0 = q 0) (h1 : p 1 = q 1) (h2 : p 2 = q 2) : IsL l q := hl.congr fun i => by
  have h : i = 0 ∨ i = 1 ∨ i = 2 ∨ 3 ≤ i := by omega
  rcases h with rfl | rfl | rfl | h
  · exact h0
  · exact h1
  · exact h2
  · exact hq i h
theorem aw9_fi (q1 q2 q3 : Nat) {l : List Int} (h : IsL l (plT (aw9 q1 q2 q3)).fi) : l = [0] :=
  (three (q := fun i => decide (i = 0)) h (fun i hi => by rw [(plT_ok _).fi i (by rw [aw9_n]; exact hi)]; exact (decide_eq_false (by omega)).symm) rfl rfl rfl).uniq (isL_one 0 fun _ => rfl)
theorem isL_three : IsL [0, 1, 2] fun i => decide (i < 3) := ⟨by decide, fun x => by
  constructor
  · intro hx
    simp only [List.mem_cons, List.not_mem_nil, or_false] at hx
    rcases hx with rfl | rfl | rfl
    · exact ⟨0, rfl, rfl⟩
    · exact ⟨1, rfl, rfl⟩
    · exact ⟨2, rfl, rfl⟩
  · rintro ⟨i, rfl, hi⟩
    have hi' : i < 3 := of_decide_eq_true hi
    have h : i = 0 ∨ i = 1 ∨ i = 2 := by omega
    rcases h with rfl | rfl | rfl <;> simp⟩
theorem isL_two : IsL [1, 2] fun i => decide (i = 1 ∨ i = 2) := ⟨by decide, fun x => by
  constructor
  · intro hx
    simp only [List.mem_cons, List.not_mem_nil, or_false] at hx
    rcases hx with rfl | rfl
    · exact ⟨1, rfl, rfl⟩
    · exact ⟨2, rfl, rfl⟩
  · rintro ⟨i, rfl, hi⟩
    have h : i = 1 ∨ i = 2 := of_decide_eq_true hi
    rcases h with rfl | rfl <;> simp⟩
theorem aw9_la (q1 q2 q3 : Nat) {l : List Int} (h : IsL l (plT (aw9 q1 q2 q3)).la) : l = [0, 1, 2] :=
  (three (q := fun i => decide (i < 3)) h (fun i hi => by rw [(plT_ok _).la i (by rw [aw9_n]; exact hi)]; exact (decide_eq_false (by omega)).symm) rfl rfl rfl).uniq isL_three
theorem aw9_fo (q1 q2 q3 : Nat) {l : List Int} (h : IsL l ((plT (aw9 q1 q2 q3)).fo 1)) : l = [1, 2] :=
  (three (q := fun i => decide (i = 1 ∨ i = 2)) h (fun i hi => by rw [(plT_ok _).fo 1 i (Or.inr (by rw [aw9_n]; exact hi))]; exact (decide_eq_false (by omega)).symm) rfl rfl rfl).uniq isL_two
theorem aw9_nu (q1 q2 q3 : Nat) : (plT (aw9 q1 q2 q3)).nu = false := rfl
end Go.Proofs.Ytbahadgcmaabcaa
/- The law's own first look (awake) of layer 9. -/
namespace Go.Proofs.Ytbahadgcmaabcaa
open Go.RowKit Go
theorem lives_bc {w : World} {q1 : Nat} (h1 : w.heap[q1]? = some (.cells (rowTwo (leafT (sE 98 98)) (leafT (sE 99 99))) 27 (0, 0))) : Lives w w.heap.size (bcT (sE 98 98) (sE 99 99) q1) :=
  ⟨wf_z0, Nat.le_refl _, by unfold maxLen; omega, fun _ => ⟨q1, 0, rfl, lt_heap h1, two_at h1⟩, fun i _ => by
    show Lives w w.heap.size (if i = 0 then leafT (sE 98 98) else leafT (sE 99 99))
    split <;> exact lives_leaf _ _ (wf_acc _)⟩
theorem lives_star {w : World} {q1 q2 : Nat} (h1 : w.heap[q1]? = some (.cells (rowTwo (leafT (sE 98 98)) (leafT (sE 99 99))) 27 (0, 0))) (h2 : w.heap[q2]? = some (.cells (row8 4 z0 0 0 (.slice (some ⟨q1, 0, none⟩) 2 2)) 27 (0, 0))) : Lives w w.heap.size (starT (sE 98 98) (sE 99 99) q1 q2) :=
  ⟨wf_z0, Nat.le_refl _, by unfold maxLen; omega, fun _ => ⟨q2, 0, rfl, lt_heap h2, fun i hi => by
    obtain rfl : i = 0 := by omega
    obtain ⟨d0, d1, d2, d3, d4, d5, d6, d7⟩ := cell8 (s := z0) h2
    exact ⟨d0, d1, d2, d3, d4, d5, d6, d7⟩⟩, fun i _ => lives_bc h1⟩
theorem lives_aw9 {w : World} {q1 q2 q3 : Nat} (h1 : w.heap[q1]? = some (.cells (rowTwo (leafT (sE 98 98)) (leafT (sE 99 99))) 27 (0, 0))) (h2 : w.heap[q2]? = some (.cells (row8 4 z0 0 0 (.slice (some ⟨q1, 0, none⟩) 2 2)) 27 (0, 0))) (h3 : w.heap[q3]? = some (.cells (rowTwo (leafT (sE 97 97)) (starT (sE 98 98) (sE 99 99) q1 q2)) 27 (0, 0))) : Lives w w.heap.size (aw9 q1 q2 q3) :=
  ⟨wf_z0, Nat.le_refl _, by unfold maxLen; omega, fun _ => ⟨q3, 0, rfl, lt_heap h3, two_at h3⟩, fun i _ => by
    show Lives w w.heap.size (if i = 0 then leafT (sE 97 97) else starT (sE 98 98) (sE 99 99) q1 q2)
    split
    · exact lives_leaf _ _ (wf_acc _)
    · exact lives_star h1 h2⟩
theorem zero_right9 : rightB zeroT = false := by simp [rightB, zeroT, okT, fitsB, Tr.k]
theorem lit_il {w : World} {g : Nat} {l : List Int} {e : Nat × Nat} (h : w.heap[g]? = some (.cells (l.map (Value.int .i64)).toArray 3 e)) (hl : l.length ≤ 100) : IL w (.slice (some ⟨g, 0, none⟩) l.length l.length) l := by
  refine ⟨_, _, rfl, Nat.le_refl _, by unfold maxLen; omega, (fun h => by cases h), fun _ => ⟨g, 0, _, e, rfl, h, fun i hi => ?_⟩⟩
  refine cell_of_row w g (0 + i) _ _ _ h |>.trans ?_
  simp [List.getD_eq_getElem?_getD, hi]
set_option maxRecDepth 100000 in
set_option maxHeartbeats 2000000 in
theorem awake9_any (w : World) : Calls Try.prog 8 #[] w fun e w' => e = .returned (.bool true) ∧ Below w.heap.size w w' := by
  obtain ⟨f, hf⟩ : ∃ f, f = sE 97 97 := ⟨_, rfl⟩
  obtain ⟨g, hg⟩ : ∃ f, f = sE 98 98 := ⟨_, rfl⟩
  obtain ⟨h, hh⟩ : ∃ f, f = sE 99 99 := ⟨_, rfl⟩
  have HA := Lib.hid (fun w => char9_any 97 w)
  have HB := Lib.hid (fun w => char9_any 98 w)
  have HC := Lib.hid (fun w => char9_any 99 w)
  rw [← hf] at HA
  rw [← hg] at HB
  rw [← hh] at HC
  have HFF := Lib.hid hf
  have HGG := Lib.hid hg
  have HHH := Lib.hid hh
  clear hf hg hh
  go_enter Try.func8, Try.ntmps8
  go_wp2_with fail
  refine (HA.out _).mono ?_
  rintro e w1 ⟨rfl, hb1⟩
  go_wp2_with fail
  refine (HB.out _).mono ?_
  rintro e w2 ⟨rfl, hb2⟩
  go_wp2_with fail
  refine (HC.out _).mono ?_
  rintro e w3 ⟨rfl, hb3⟩
  have HB3 := Lib.hid (hb1.trans ((hb2.trans (hb3.mono hb2.size)).mono hb1.size))
  clear hb1 hb2 hb3
  go_wp2_with fail
  obtain ⟨q, hq⟩ : ∃ q, q = w3.heap.size := ⟨_, rfl⟩
  have HO1 := heap_alloc4_a w3 (.cells (rowTwo (leafT g) (leafT h)) 27) (.cells (row8 4 z0 0 0 (.slice (some ⟨w3.heap.size, 0, none⟩) 2 2)) 27) (.cells (rowTwo (leafT f) (starT g h w3.heap.size (w3.heap.size + 1))) 27) (.cells (row8 3 z0 0 0 (.slice (some ⟨w3.heap.size + 1 + 1, 0, none⟩) 2 2)) 27)
  have HO2 := heap_alloc4_b w3 (.cells (rowTwo (leafT g) (leafT h)) 27) (.cells (row8 4 z0 0 0 (.slice (some ⟨w3.heap.size, 0, none⟩) 2 2)) 27) (.cells (rowTwo (leafT f) (starT g h w3.heap.size (w3.heap.size + 1))) 27) (.cells (row8 3 z0 0 0 (.slice (some ⟨w3.heap.size + 1 + 1, 0, none⟩) 2 2)) 27)
  have HO3 := heap_alloc4_c w3 (.cells (rowTwo (leafT g) (leafT h)) 27) (.cells (row8 4 z0 0 0 (.slice (some ⟨w3.heap.size, 0, none⟩) 2 2)) 27) (.cells (rowTwo (leafT f) (starT g h w3.heap.size (w3.heap.size + 1))) 27) (.cells (row8 3 z0 0 0 (.slice (some ⟨w3.heap.size + 1 + 1, 0, none⟩) 2 2)) 27)
  have HBW := (below_alloc4 w3 (.cells (rowTwo (leafT g) (leafT h)) 27) (.cells (row8 4 z0 0 0 (.slice (some ⟨w3.heap.size, 0, none⟩) 2 2)) 27) (.cells (rowTwo (leafT f) (starT g h w3.heap.size (w3.heap.size + 1))) 27) (.cells (row8 3 z0 0 0 (.slice (some ⟨w3.heap.size + 1 + 1, 0, none⟩) 2 2)) 27))
  show Calls Try.prog 13 #[nodeV 3 z0 0 0 (.slice (some ⟨w3.heap.size + 1 + 1, 0, none⟩) 2 2)] ((((w3.alloc (.cells (rowTwo (leafT g) (leafT h)) 27)).alloc (.cells (row8 4 z0 0 0 (.slice (some ⟨w3.heap.size, 0, none⟩) 2 2)) 27)).alloc (.cells (rowTwo (leafT f) (starT g h w3.heap.size (w3.heap.size + 1))) 27)).alloc (.cells (row8 3 z0 0 0 (.slice (some ⟨w3.heap.size + 1 + 1, 0, none⟩) 2 2)) 27)) _
  obtain ⟨W, hW⟩ : ∃ W, W = (((w3.alloc (.cells (rowTwo (leafT g) (leafT h)) 27)).alloc (.cells (row8 4 z0 0 0 (.slice (some ⟨w3.heap.size, 0, none⟩) 2 2)) 27)).alloc (.cells (rowTwo (leafT f) (starT g h w3.heap.size (w3.heap.size + 1))) 27)).alloc (.cells (row8 3 z0 0 0 (.slice (some ⟨w3.heap.size + 1 + 1, 0, none⟩) 2 2)) 27) := ⟨_, rfl⟩
  rw [← hW] at HO1 HO2 HO3 HBW ⊢
  clear hW
  have HB4 := Lib.hid (HB3.out.trans (HBW.mono HB3.out.size))
  rw [← hq] at HO1 HO2 HO3 ⊢
  rw [HGG.out, HHH.out] at HO1
  rw [HFF.out, HGG.out, HHH.out] at HO3
  clear hq HBW HB3 HA HB HC HFF HGG HHH
  have hLv : Lives W W.heap.size (aw9 q (q + 1) (q + 1 + 1)) := lives_aw9 HO1 HO2 HO3
  have HP1 := Lib.hid (placeOf_any (aw9 q (q + 1) (q + 1 + 1)) W hLv)
  unfold OfE at HP1
  rw [show (aw9 q (q + 1) (q + 1 + 1)).val = nodeV 3 z0 0 0 (.slice (some ⟨q + 1 + 1, 0, none⟩) 2 2) from rfl] at HP1
  rw [aw9_right, if_pos rfl, if_pos rfl] at HP1
  have HP2 := Lib.hid (fun w => placeOf_any zeroT w (lives_zero w _))
  unfold OfE at HP2
  rw [zero_right9, if_neg Bool.false_ne_true, if_neg Bool.false_ne_true] at HP2
  rw [show zeroT.val = nodeV 0 z0 0 0 (.slice none 0 0) from rfl] at HP2
  clear HO1 HO2 HO3 hLv
  refine HP1.out.mono ?_
  rintro e w4 ⟨v, rfl, ⟨vs, vf, vl, vo, lf, ll, us, F, rfl, hX⟩, hb4⟩
  have hn3 := aw9_n q (q + 1) (q + 1 + 1)
  have HNU := Lib.hid (aw9_nu q (q + 1) (q + 1 + 1))
  have HF0 := aw9_fi _ _ _ hX.sfi
  have HL0 := aw9_la _ _ _ hX.sla
  have HO0 := aw9_fo _ _ _ (hX.lists 1 (by rw [hn3]; omega)).2
  have HIf := hX.ffi
  have HIl := hX.fla
  have HIo := (hX.lists 1 (by rw [hn3]; omega)).1
  rw [HF0] at HIf
  rw [HL0] at HIl
  rw [HO0] at HIo
  have HIF := Lib.hid HIf
  have HIL := Lib.hid HIl
  have HIO := Lib.hid HIo
  obtain ⟨a1, c1, rfl, -⟩ := hX.sets
  obtain ⟨ao, co, rfl, hco, hmo, -, hro⟩ := hX.rows
  obtain ⟨go, oo, rfl, ⟨hgo, -⟩, hgc⟩ := hro (by rw [hn3]; omega)
  have hg1 := hgc 1 (by rw [hn3]; omega)
  rw [hn3] at hco
  rw [hn3, HNU.out]
  obtain ⟨u1, hu1⟩ : ∃ u, u = us 1 := ⟨_, rfl⟩
  rw [← hu1] at HIO hg1
  clear hgc hro hX HF0 HL0 HO0 HIf HIl HIo hn3 hu1 HNU
  obtain ⟨af, cf, rfl, -⟩ := HIF.out
  obtain ⟨al, cl, rfl, -⟩ := HIL.out
  obtain ⟨au, cu, rfl, -⟩ := HIO.out
  have hb5 := alloc_below w4 (.cells (pl5 (.slice a1 3 c1) (.slice af 1 cf) (.slice al 3 cl) (.slice (some ⟨go, oo, none⟩) 3 co) false) 40)
  have HB5 := Lib.hid (HB4.out.trans ((hb4.trans (hb5.mono hb4.size)).mono HB4.out.size))
  have HX5 := Lib.hid (heap_alloc_new w4 (.cells (pl5 (.slice a1 3 c1) (.slice af 1 cf) (.slice al 3 cl) (.slice (some ⟨go, oo, none⟩) 3 co) false) 40))
  have HIF5 := Lib.hid (HIF.out.below hb5)
  have HIL5 := Lib.hid (HIL.out.below hb5)
  have HIO5 := Lib.hid (HIO.out.below hb5)
  have HG5 := Lib.hid (show go < (w4.alloc (.cells (pl5 (.slice a1 3 c1) (.slice af 1 cf) (.slice al 3 cl) (.slice (some ⟨go, oo, none⟩) 3 co) false) 40)).heap.size ∧ (w4.alloc (.cells (pl5 (.slice a1 3 c1) (.slice af 1 cf) (.slice al 3 cl) (.slice (some ⟨go, oo, none⟩) 3 co) false) 40)).cell? ⟨go, oo + 1, none⟩ = some (.slice au 2 cu) from ⟨Nat.lt_of_lt_of_le hgo hb5.size, (hb5.cell (p := ⟨go, oo + 1, none⟩) hgo).trans hg1⟩)
  clear hb4 hb5 hg1 hgo HIF HIL HIO HP1 HB4
  go_upto_region 3 with fail
  obtain ⟨w5, hw⟩ : ∃ x, x = w4.alloc (.cells (pl5 (.slice a1 3 c1) (.slice af 1 cf) (.slice al 3 cl) (.slice (some ⟨go, oo, none⟩) 3 co) false) 40) := ⟨_, rfl⟩
  obtain ⟨r, hr⟩ : ∃ q, q = w4.heap.size := ⟨_, rfl⟩
  rw [← hw] at HB5 HIF5 HIL5 HIO5 HG5
  rw [← hw, ← hr] at HX5
  rw [← hw, ← hr]
  clear hw hr
  go_wp2_with fail
  refine (HP2.out w5).mono ?_
  rintro e w6 ⟨v, rfl, hV, hb6⟩
  obtain ⟨x1, d1, x2, m2, d2, x3, m3, d3, x4, d4, rfl⟩ := hV.forms
  have hb7 := alloc_below w6 (.cells (pl5 (.slice x1 (Pl.nil false).n d1) (.slice x2 m2 d2) (.slice x3 m3 d3) (.slice x4 (Pl.nil false).n d4) (Pl.nil false).nu) 40)
  have hbb := hb6.trans (hb7.mono hb6.size)
  have HB7 := Lib.hid (HB5.out.trans (hbb.mono HB5.out.size))
  have HX7 := Lib.hid ((hbb.block _ (lt_heap HX5.out)).trans HX5.out)
  have HIF7 := Lib.hid (HIF5.out.below hbb)
  have HIL7 := Lib.hid (HIL5.out.below hbb)
  have HIO7 := Lib.hid (HIO5.out.below hbb)
  have HG7 := Lib.hid (And.intro (Nat.lt_of_lt_of_le HG5.out.1 hbb.size) ((hbb.cell (p := ⟨go, oo + 1, none⟩) HG5.out.1).trans HG5.out.2))
  clear hV hb6 hb7 hbb HB5 HX5 HIF5 HIL5 HIO5 HG5 HP2
  go_upto_region 4 with fail
  obtain ⟨w7, hw⟩ : ∃ x, x = w6.alloc (.cells (pl5 (.slice x1 (Pl.nil false).n d1) (.slice x2 m2 d2) (.slice x3 m3 d3) (.slice x4 (Pl.nil false).n d4) (Pl.nil false).nu) 40) := ⟨_, rfl⟩
  rw [← hw] at HB7 HX7 HIF7 HIL7 HIO7 HG7
  rw [← hw]
  clear hw
  obtain ⟨y0, y1, y2, y3, y4⟩ := cell5 HX7.out
  go_wp2_with fail
  have HBL7 := alloc_below w7 (.cells ([0].map (Value.int .i64)).toArray 3)
  have HI7 := Lib.hid (Ints_any9 [0] _ _ _ (by decide) (HIF7.out.below HBL7) (lit_il (l := [0]) (heap_alloc_new w7 (.cells ([0].map (Value.int .i64)).toArray 3)) (by decide)))
  refine HI7.out.mono ?_
  rintro e w8 ⟨rfl, hb8⟩
  have hbb := HBL7.trans (hb8.mono HBL7.size)
  have HB8 := Lib.hid (HB7.out.trans (hbb.mono HB7.out.size))
  have HX8 := Lib.hid ((hbb.block _ (lt_heap HX7.out)).trans HX7.out)
  have HIL8 := Lib.hid (HIL7.out.below hbb)
  have HIO8 := Lib.hid (HIO7.out.below hbb)
  have HG8 := Lib.hid (And.intro (Nat.lt_of_lt_of_le HG7.out.1 hbb.size) ((hbb.cell (p := ⟨go, oo + 1, none⟩) HG7.out.1).trans HG7.out.2))
  clear HBL7 HI7 hb8 hbb HB7 HX7 HIL7 HIO7 HG7 y0 y1 y2 y3 y4
  obtain ⟨y0, y1, y2, y3, y4⟩ := cell5 HX8.out
  go_wp2_with fail
  have HBL8 := alloc_below w8 (.cells ([0, 1, 2].map (Value.int .i64)).toArray 3)
  have HI8 := Lib.hid (Ints_any9 [0, 1, 2] _ _ _ (by decide) (HIL8.out.below HBL8) (lit_il (l := [0, 1, 2]) (heap_alloc_new w8 (.cells ([0, 1, 2].map (Value.int .i64)).toArray 3)) (by decide)))
  refine HI8.out.mono ?_
  rintro e w9 ⟨rfl, hb9⟩
  have hbb := HBL8.trans (hb9.mono HBL8.size)
  have HB9 := Lib.hid (HB8.out.trans (hbb.mono HB8.out.size))
  have HX9 := Lib.hid ((hbb.block _ (lt_heap HX8.out)).trans HX8.out)
  have HIL9 := Lib.hid (HIL8.out.below hbb)
  have HIO9 := Lib.hid (HIO8.out.below hbb)
  have HG9 := Lib.hid (And.intro (Nat.lt_of_lt_of_le HG8.out.1 hbb.size) ((hbb.cell (p := ⟨go, oo + 1, none⟩) HG8.out.1).trans HG8.out.2))
  clear HBL8 HI8 hb9 hbb HB8 HX8 HIL8 HIO8 HG8 y0 y1 y2 y3 y4
  obtain ⟨y0, y1, y2, y3, y4⟩ := cell5 HX9.out
  have hg1 := HG9.out.2
  go_wp2_with fail
  have HBL9 := alloc_below w9 (.cells ([1, 2].map (Value.int .i64)).toArray 3)
  have HI9 := Lib.hid (Ints_any9 [1, 2] _ _ _ (by decide) (HIO9.out.below HBL9) (lit_il (l := [1, 2]) (heap_alloc_new w9 (.cells ([1, 2].map (Value.int .i64)).toArray 3)) (by decide)))
  refine HI9.out.mono ?_
  rintro e w10 ⟨rfl, hb10⟩
  have hbb := HBL9.trans (hb10.mono HBL9.size)
  have HB10 := Lib.hid (HB9.out.trans (hbb.mono HB9.out.size))
  have HX10 := Lib.hid ((hbb.block _ (lt_heap HX9.out)).trans HX9.out)
  have HIL10 := Lib.hid (HIL9.out.below hbb)
  have HIO10 := Lib.hid (HIO9.out.below hbb)
  have HG10 := Lib.hid (And.intro (Nat.lt_of_lt_of_le HG9.out.1 hbb.size) ((hbb.cell (p := ⟨go, oo + 1, none⟩) HG9.out.1).trans HG9.out.2))
  clear HBL9 HI9 hb10 hbb HB9 HX9 HIL9 HIO9 HG9 y0 y1 y2 y3 y4
  obtain ⟨y0, y1, y2, y3, y4⟩ := cell5 HX10.out
  go_wp2
  go_ret
  exact ⟨ret_bool (by simp), HB10.out⟩
end Go.Proofs.Ytbahadgcmaabcaa
