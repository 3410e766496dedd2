/- Contract of the document's alt of layer 9. -/
import Derived.Test.YtbahadgcmaabcaaJq
namespace Go.Proofs.Ytbahadgcmaabcaa
open Go.RowKit Go
set_option maxRecDepth 100000 in
set_option maxHeartbeats 8000000 in
theorem alt_any9 (A B : Pl) (va vb : Value) (w : World) (ha : PlV w va A) (hb : PlV w vb B) (hn : A.n + B.n ≤ 900) : Calls Try.prog 47 #[va, vb] w (PlE w (A.alt B)) := by
  obtain ⟨vs, vf, vl, vo, lf, ll, us, F, rfl, hX⟩ := ha
  obtain ⟨ws, wf, wl, wo, kf, kl, ts, E, rfl, hY⟩ := hb
  have HX := Lib.hid hX
  have HY := Lib.hid hY
  obtain ⟨⟨a1, c1, rfl, _⟩, ⟨a2, c2, rfl, _⟩, _, ⟨a3, c3, rfl, _, hc3, _⟩, _, ⟨a4, c4, rfl, _⟩, _, _⟩ := hX
  obtain ⟨⟨d1, e1, rfl, _⟩, ⟨d2, e2, rfl, _⟩, _, ⟨d3, e3, rfl, _⟩, _, ⟨d4, e4, rfl, _⟩, _, _⟩ := hY
  obtain ⟨ba, hba⟩ : ∃ b, b = A.nu := ⟨_, rfl⟩
  obtain ⟨bb, hbb⟩ : ∃ b, b = B.nu := ⟨_, rfl⟩
  have HVA : Hid (PlV w (plV (.slice a1 A.n c1) (.slice a2 lf.length c2) (.slice a3 ll.length c3) (.slice a4 A.n c4) ba) A) := Lib.hid (by rw [hba]; exact ⟨_, _, _, _, _, _, _, _, rfl, HX.out⟩)
  have HVB : Hid (PlV w (plV (.slice d1 B.n e1) (.slice d2 kf.length e2) (.slice d3 kl.length e3) (.slice d4 B.n e4) bb) B) := Lib.hid (by rw [hbb]; exact ⟨_, _, _, _, _, _, _, _, rfl, HY.out⟩)
  rw [← hba, ← hbb]
  have HNU := Lib.hid (And.intro hba hbb)
  obtain ⟨w3, hw3⟩ : ∃ w3, w3 = ((w.alloc (.cells (pl5 (.slice a1 A.n c1) (.slice a2 lf.length c2) (.slice a3 ll.length c3) (.slice a4 A.n c4) ba) 40)).alloc (.cells (pl5 (.slice d1 B.n e1) (.slice d2 kf.length e2) (.slice d3 kl.length e3) (.slice d4 B.n e4) bb) 40)).alloc (.cells pl0 40) := ⟨_, rfl⟩
  have hb3 : Below w.heap.size w w3 := by rw [hw3]; exact below_alloc3 _ _ _ _
  obtain ⟨b0, b1, b2⟩ := heap3 w (.cells (pl5 (.slice a1 A.n c1) (.slice a2 lf.length c2) (.slice a3 ll.length c3) (.slice a4 A.n c4) ba) 40) (.cells (pl5 (.slice d1 B.n e1) (.slice d2 kf.length e2) (.slice d3 kl.length e3) (.slice d4 B.n e4) bb) 40) (.cells pl0 40)
  rw [← hw3] at b0 b1 b2
  have HB0 := Lib.hid b0
  have HB1 := Lib.hid b1
  have HB2 := Lib.hid b2
  have HBB := Lib.hid hb3
  have HBO := Lib.hid (both_any A B _ _ w3 (HVA.out.below hb3) (HVB.out.below hb3) hn)
  have hrf := HY.out.sfi.range (n := B.n) HY.out.ok.fi
  have hrl := HY.out.sla.range (n := B.n) HY.out.ok.la
  have hlf := HY.out.sfi.len (n := B.n) HY.out.ok.fi
  have hll := HY.out.sla.len (n := B.n) HY.out.ok.la
  have hlA := HX.out.sla.len (n := A.n) HX.out.ok.la
  have hfA := HX.out.sfi.len (n := A.n) HX.out.ok.fi
  have HLEN := Lib.hid (show kf.length ≤ 900 ∧ kl.length ≤ 900 ∧ lf.length ≤ 900 ∧ ll.length ≤ 900 from ⟨by omega, by omega, by omega, by omega⟩)
  have HM1 : Hid (∀ W, Below w.heap.size w W → Calls Try.prog 63 #[.slice d2 kf.length e2, .int .i64 (A.n : Int)] W (GivesL W (kf.map fun x => x + (A.n : Int)))) := Lib.hid fun W h => moved_any kf (A.n : Int) _ W (HY.out.ffi.below h) (by omega) (by omega) fun x hx => by have := hrf x hx; omega
  have HM2 : Hid (∀ W, Below w.heap.size w W → Calls Try.prog 63 #[.slice d3 kl.length e3, .int .i64 (A.n : Int)] W (GivesL W (kl.map fun x => x + (A.n : Int)))) := Lib.hid fun W h => moved_any kl (A.n : Int) _ W (HY.out.fla.below h) (by omega) (by omega) fun x hx => by have := hrl x hx; omega
  have HQ := Lib.hid (show w.heap.size < w3.heap.size ∧ w.heap.size + 1 < w3.heap.size ∧ w.heap.size + 2 < w3.heap.size ∧ w.heap.size ≤ w3.heap.size from ⟨lt_heap b0, lt_heap b1, lt_heap b2, hb3.size⟩)
  have HST : Hid (∀ (W4 : World) (sv vo : Value) (us' : Nat → Value) (F' : Nat → List Int), Below w3.heap.size w3 W4 → W4.ownsRow w3.heap.size 24 4 sv (A.n + B.n) (flatW (bset A B) (A.n + B.n)) → W4.ownsRow w3.heap.size 37 1 vo (A.n + B.n) (rowV us' (A.n + B.n)) → (∀ i, i < A.n + B.n → IL W4 (us' i) (F' i) ∧ IsL (F' i) (bfo A B i)) →
      BoS w (A.n + B.n) (bset A B) (bfo A B) [(w.heap.size, pl5 (.slice a1 A.n c1) (.slice a2 lf.length c2) (.slice a3 ll.length c3) (.slice a4 A.n c4) ba), (w.heap.size + 1, pl5 (.slice d1 B.n e1) (.slice d2 kf.length e2) (.slice d3 kl.length e3) (.slice d4 B.n e4) bb), (w.heap.size + 2, pl0)] W4.heap.size sv (.slice none 0 0) (.slice none 0 0) vo (.bool false) (W4.alloc (.cells (pl5 sv (.slice none 0 0) (.slice none 0 0) vo false) 40))) := Lib.hid fun W4 sv vo us' F' h hs hr hl => by
    have hba := alloc_below W4 (.cells (pl5 sv (.slice none 0 0) (.slice none 0 0) vo false) 40)
    have hsz := h.size
    refine ⟨us', F', ⟨fun x hx => ?_, heap_alloc_new _ _, by have := HQ.out; omega, (HBB.out.trans (h.mono HQ.out.2.2.2)).trans (hba.mono (by have := HQ.out; omega)), ownsRow_base (hs.alloc _) HQ.out.2.2.2, ownsRow_base (hr.alloc _) HQ.out.2.2.2, fun i hi => (hl i hi).1.below hba⟩, fun i hi => (hl i hi).2⟩
    simp only [List.mem_cons, List.not_mem_nil, or_false] at hx
    have hq := HQ.out
    rcases hx with rfl | rfl | rfl
    · exact ⟨(hba.block _ (by show w.heap.size < _; omega)).trans ((h.block _ HQ.out.1).trans HB0.out), by show w.heap.size ≠ _; omega, Nat.le_refl _⟩
    · exact ⟨(hba.block _ (by show w.heap.size + 1 < _; omega)).trans ((h.block _ HQ.out.2.1).trans HB1.out), by show w.heap.size + 1 ≠ _; omega, Nat.le_succ _⟩
    · exact ⟨(hba.block _ (by show w.heap.size + 2 < _; omega)).trans ((h.block _ HQ.out.2.2.1).trans HB2.out), by show w.heap.size + 2 ≠ _; omega, by show w.heap.size ≤ w.heap.size + 2; omega⟩
  obtain ⟨x0, x1, x2, x3, x4⟩ := cell5 b0
  obtain ⟨y0, y1, y2, y3, y4⟩ := cell5 b1
  clear hb3 b0 b1 b2 hba hbb hrf hrl hlf hll hlA hfA
  subst hw3
  go_enter Try.func47, Try.ntmps47
  go_wp2_with fail
  refine HBO.out.mono ?_
  rintro e w4 ⟨sv, vo, us', F', rfl, hs, hr, hl, hb4⟩
  obtain ⟨w3, hw3⟩ : ∃ w3, w3 = ((w.alloc (.cells (pl5 (.slice a1 A.n c1) (.slice a2 lf.length c2) (.slice a3 ll.length c3) (.slice a4 A.n c4) ba) 40)).alloc (.cells (pl5 (.slice d1 B.n e1) (.slice d2 kf.length e2) (.slice d3 kl.length e3) (.slice d4 B.n e4) bb) 40)).alloc (.cells pl0 40) := ⟨_, rfl⟩
  rw [← hw3] at hs hr hb4 HST HQ HBB HB0 HB1 HB2
  have HBS := Lib.hid (HST.out w4 _ _ _ _ hb4 hs hr hl)
  obtain ⟨⟨sa, sc, rfl⟩, ov, oc, rfl⟩ := HBS.out.forms
  clear hs hr hl hb4 HST hw3 x0 x1 x2 x3 x4 y0 y1 y2 y3 y4
  go_upto_region 3 with fail
  obtain ⟨w5, hw5⟩ : ∃ x, x = w4.alloc (.cells (pl5 (.slice sa (A.n + B.n) sc) (.slice none 0 0) (.slice none 0 0) (.slice ov (A.n + B.n) oc) false) 40) := ⟨_, rfl⟩
  obtain ⟨q, hq⟩ : ∃ q, q = w4.heap.size := ⟨_, rfl⟩
  obtain ⟨L, hL⟩ : ∃ L, L = [(w.heap.size, pl5 (.slice a1 A.n c1) (.slice a2 lf.length c2) (.slice a3 ll.length c3) (.slice a4 A.n c4) ba), (w.heap.size + 1, pl5 (.slice d1 B.n e1) (.slice d2 kf.length e2) (.slice d3 kl.length e3) (.slice d4 B.n e4) bb), (w.heap.size + 2, pl0)] := ⟨_, rfl⟩
  have HL0 : Hid ((w.heap.size, pl5 (.slice a1 A.n c1) (.slice a2 lf.length c2) (.slice a3 ll.length c3) (.slice a4 A.n c4) ba) ∈ L) := Lib.hid (by rw [hL]; simp)
  have HL1 : Hid ((w.heap.size + 1, pl5 (.slice d1 B.n e1) (.slice d2 kf.length e2) (.slice d3 kl.length e3) (.slice d4 B.n e4) bb) ∈ L) := Lib.hid (by rw [hL]; simp)
  have HL2 : Hid ((w.heap.size + 2, pl0) ∈ L) := Lib.hid (by rw [hL]; simp)
  rw [← hw5, ← hq, ← hL] at HBS
  rw [← hw5, ← hq]
  clear hw5 hq hL
  have hbw : Below w.heap.size w w5 := HBS.out.bel
  have HBW := Lib.hid hbw
  have HSZ := Lib.hid hbw.size
  clear hbw
  have HS5 := Lib.hid (HBS.out.congr fun i t => (alt_fo HX.out.ok B i t).symm)
  clear HBS
  have HKP6 : Hid (∀ W, Below w5.heap.size w5 W → W.cell? ⟨w.heap.size, 1, none⟩ = some (.slice a2 lf.length c2) ∧ W.cell? ⟨w.heap.size + 1, 1, none⟩ = some (.slice d2 kf.length e2)) := Lib.hid fun W h => two_stand h (lt_heap (HS5.out.bx _ HL0.out)) (lt_heap (HS5.out.bx _ HL1.out)) (cell5 (HS5.out.bx _ HL0.out)).2.1 (cell5 (HS5.out.bx _ HL1.out)).2.1
  have HKS6 : Hid (∀ W v, Below w5.heap.size w5 W → (W.setCell ⟨q, 1, none⟩ v).cell? ⟨w.heap.size, 1, none⟩ = some (.slice a2 lf.length c2) ∧ (W.setCell ⟨q, 1, none⟩ v).cell? ⟨w.heap.size + 1, 1, none⟩ = some (.slice d2 kf.length e2)) := Lib.hid fun W v h => ⟨cell_set (HKP6.out W h).1 (HS5.out.ne _ HL0.out), cell_set (HKP6.out W h).2 (HS5.out.ne _ HL1.out)⟩
  have HB06 : Below w5.heap.size w5 w5.drew := (Below.refl _ _).drew
  have z6 := (HKP6.out _ (Below.refl _ _)).1
  have y6 := (HKP6.out _ (Below.refl _ _)).2
  have p6 := (cell5 HS5.out.c7).2.1
  have f6 := frozen4 HS5.out.c7 1
  go_wp2_with fail
  go_region_held3 (fun w' => w'.cell? ⟨w.heap.size, 1, none⟩ = some (.slice a2 lf.length c2) ∧ w'.cell? ⟨w.heap.size + 1, 1, none⟩ = some (.slice d2 kf.length e2))
    ((first | with_reducible exact HKP6.out _ HB06 | with_reducible exact HKP6.out _ HBx6 | with_reducible exact HKP6.out _ HBy6 | with_reducible exact HKS6.out _ _ HBy6))
    (first
      | (go_at_call 63; refine (HM1.out w5.drew (HS5.out.bel.drew)).mono ?_; rintro e wx6 ⟨vx6, rfl, hilx6, hbx6⟩; have HBx6 : Below w5.heap.size w5 wx6 := undrew hbx6; have hilx' := hilx6; obtain ⟨fa6, fc6, rfl, _⟩ := hilx6; rw [List.length_map] at hilx'; have HILX6 := Lib.hid hilx'; clear hilx')
      | (go_at_call 17; refine (add_any9 lf (kf.map fun x => x + (A.n : Int)) _ _ wx6 (HX.out.ffi.below (HS5.out.bel.trans (HBx6.mono HS5.out.bel.size))) HILX6.out HX.out.sfi.1 (by have := HLEN.out; rw [List.length_map]; omega)).mono ?_; rintro e wy6 ⟨vy6, rfl, hily6, hby6⟩; have HBy6 : Below w5.heap.size w5 wy6 := HBx6.trans (hby6.mono HBx6.size); have HILY6 := Lib.hid hily6; obtain ⟨ga6, gc6, rfl, _⟩ := hily6; have py := (cell5 (HS5.out.below HBy6).c7).2.1; have fy := frozen4 (HS5.out.below HBy6).c7 1))
  have HG6 := Lib.hid (grown_set wy6 q 1 (.slice ga6 (mrg lf (kf.map fun x => x + (A.n : Int))).length gc6))
  have HT6 := Lib.hid (put_1 (.slice ga6 (mrg lf (kf.map fun x => x + (A.n : Int))).length gc6) (HS5.out.below HBy6).c7)
  have HRA6 := Lib.hid (il_put (c := 1) (u := .slice ga6 (mrg lf (kf.map fun x => x + (A.n : Int))).length gc6) HILY6.out (HS5.out.below HBy6).c7)
  have HS6 := Lib.hid ((HS5.out.below HBy6).put HG6.out HT6.out)
  go_upto_region 4 with fail
  obtain ⟨w6, hw⟩ : ∃ x, x = wy6.setCell ⟨q, 1, none⟩ (.slice ga6 (mrg lf (kf.map fun x => x + (A.n : Int))).length gc6) := ⟨_, rfl⟩
  rw [← hw] at HRA6 HS6  ⊢
  clear hw py fy z6 y6 p6 f6
  have HKP7 : Hid (∀ W, Below w6.heap.size w6 W → W.cell? ⟨w.heap.size, 2, none⟩ = some (.slice a3 ll.length c3) ∧ W.cell? ⟨w.heap.size + 1, 2, none⟩ = some (.slice d3 kl.length e3)) := Lib.hid fun W h => two_stand h (lt_heap (HS6.out.bx _ HL0.out)) (lt_heap (HS6.out.bx _ HL1.out)) (cell5 (HS6.out.bx _ HL0.out)).2.2.1 (cell5 (HS6.out.bx _ HL1.out)).2.2.1
  have HKS7 : Hid (∀ W v, Below w6.heap.size w6 W → (W.setCell ⟨q, 2, none⟩ v).cell? ⟨w.heap.size, 2, none⟩ = some (.slice a3 ll.length c3) ∧ (W.setCell ⟨q, 2, none⟩ v).cell? ⟨w.heap.size + 1, 2, none⟩ = some (.slice d3 kl.length e3)) := Lib.hid fun W v h => ⟨cell_set (HKP7.out W h).1 (HS6.out.ne _ HL0.out), cell_set (HKP7.out W h).2 (HS6.out.ne _ HL1.out)⟩
  have HB07 : Below w6.heap.size w6 w6.drew := (Below.refl _ _).drew
  have z7 := (HKP7.out _ (Below.refl _ _)).1
  have y7 := (HKP7.out _ (Below.refl _ _)).2
  have p7 := (cell5 HS6.out.c7).2.2.1
  have f7 := frozen4 HS6.out.c7 2
  go_wp2_with fail
  go_region_held3 (fun w' => w'.cell? ⟨w.heap.size, 2, none⟩ = some (.slice a3 ll.length c3) ∧ w'.cell? ⟨w.heap.size + 1, 2, none⟩ = some (.slice d3 kl.length e3))
    ((first | with_reducible exact HKP7.out _ HB07 | with_reducible exact HKP7.out _ HBx7 | with_reducible exact HKP7.out _ HBy7 | with_reducible exact HKS7.out _ _ HBy7))
    (first
      | (go_at_call 63; refine (HM2.out w6.drew (HS6.out.bel.drew)).mono ?_; rintro e wx7 ⟨vx7, rfl, hilx7, hbx7⟩; have HBx7 : Below w6.heap.size w6 wx7 := undrew hbx7; have hilx' := hilx7; obtain ⟨fa7, fc7, rfl, _⟩ := hilx7; rw [List.length_map] at hilx'; have HILX7 := Lib.hid hilx'; clear hilx')
      | (go_at_call 17; refine (add_any9 ll (kl.map fun x => x + (A.n : Int)) _ _ wx7 (HX.out.fla.below (HS6.out.bel.trans (HBx7.mono HS6.out.bel.size))) HILX7.out HX.out.sla.1 (by have := HLEN.out; rw [List.length_map]; omega)).mono ?_; rintro e wy7 ⟨vy7, rfl, hily7, hby7⟩; have HBy7 : Below w6.heap.size w6 wy7 := HBx7.trans (hby7.mono HBx7.size); have HILY7 := Lib.hid hily7; obtain ⟨ga7, gc7, rfl, _⟩ := hily7; have py := (cell5 (HS6.out.below HBy7).c7).2.2.1; have fy := frozen4 (HS6.out.below HBy7).c7 2))
  have HG7 := Lib.hid (grown_set wy7 q 2 (.slice ga7 (mrg ll (kl.map fun x => x + (A.n : Int))).length gc7))
  have HT7 := Lib.hid (put_2 (.slice ga7 (mrg ll (kl.map fun x => x + (A.n : Int))).length gc7) (HS6.out.below HBy7).c7)
  have HR7 := Lib.hid (il_put (c := 2) (u := .slice ga7 (mrg ll (kl.map fun x => x + (A.n : Int))).length gc7) HILY7.out (HS6.out.below HBy7).c7)
  have HRA7 := Lib.hid (il_put (c := 2) (u := .slice ga7 (mrg ll (kl.map fun x => x + (A.n : Int))).length gc7) (HRA6.out.below HBy7) (HS6.out.below HBy7).c7)
  have HS7 := Lib.hid ((HS6.out.below HBy7).put HG7.out HT7.out)
  go_upto_region 5 with fail
  obtain ⟨w7, hw⟩ : ∃ x, x = wy7.setCell ⟨q, 2, none⟩ (.slice ga7 (mrg ll (kl.map fun x => x + (A.n : Int))).length gc7) := ⟨_, rfl⟩
  rw [← hw] at HR7 HS7 HRA7 ⊢
  clear hw py fy z7 y7 p7 f7
  cases ba <;> cases bb
  · obtain ⟨z0, z1, z2, z3, z4⟩ := cell5 (HS7.out.bx _ HL0.out)
    obtain ⟨y0, y1, y2, y3, y4⟩ := cell5 (HS7.out.bx _ HL1.out)
    obtain ⟨l0, l1, l2, l3, l4⟩ := cell5 (HS7.out.bx _ HL2.out)
    obtain ⟨p0, p1, p2, p3, p4⟩ := cell5 HS7.out.c7
    have n0 := frozen4 HS7.out.c7 0
    have m0 := frozen4 (HS7.out.bx _ HL2.out) 0
    have n1 := frozen4 HS7.out.c7 1
    have m1 := frozen4 (HS7.out.bx _ HL2.out) 1
    have n2 := frozen4 HS7.out.c7 2
    have m2 := frozen4 (HS7.out.bx _ HL2.out) 2
    have n3 := frozen4 HS7.out.c7 3
    have m3 := frozen4 (HS7.out.bx _ HL2.out) 3
    have n4 := frozen4 HS7.out.c7 4
    have m4 := frozen4 (HS7.out.bx _ HL2.out) 4
    go_upto_region 6 with fail
    have HG13 := Lib.hid (grown_set w7 q 4 (.bool false))
    have HT13 := Lib.hid (put_4 (.bool false) HS7.out.c7)
    have HS13 := Lib.hid (HS7.out.put HG13.out HT13.out)
    have HFI := Lib.hid (il_put (c := 4) (u := .bool false) HRA7.out HS7.out.c7)
    have HLA := Lib.hid (il_put (c := 4) (u := .bool false) HR7.out HS7.out.c7)
    have hnu : (A.alt B).nu = false := by
      show (A.nu || B.nu) = _
      rw [← HNU.out.1, ← HNU.out.2]; rfl
    have HFN := Lib.hid (HS13.out.fin (P := A.alt B) (cs := (.slice none 0 0, .slice none 0 0, .slice none 0 0, .slice none 0 0, .bool false)) HL2.out (HX.out.ok.alt HY.out.ok) rfl (fun i _ => rfl) (fun i j _ => rfl) HFI.out ((HX.out.sfi.mrg (HY.out.sfi.moved A.n)).congr fun i => (alt_fi HX.out.ok B i).symm) HLA.out ((HX.out.sla.mrg (HY.out.sla.moved A.n)).congr fun i => (alt_la HX.out.ok B i).symm))
    rw [hnu] at HFN
    obtain ⟨w13, hw⟩ : ∃ x, x = w7.setCell ⟨q, 4, none⟩ (.bool false) := ⟨_, rfl⟩
    rw [← hw] at HS13 HFN ⊢
    clear hw
    clear z0 z1 z2 z3 z4 y0 y1 y2 y3 y4 p0 p1 p2 p3 p4 l0 l1 l2 l3 l4 m0 m1 m2 m3 m4 n0 n1 n2 n3 n4
    obtain ⟨z0, z1, z2, z3, z4⟩ := cell5 (HS13.out.bx _ HL0.out)
    obtain ⟨y0, y1, y2, y3, y4⟩ := cell5 (HS13.out.bx _ HL1.out)
    obtain ⟨l0, l1, l2, l3, l4⟩ := cell5 (HS13.out.bx _ HL2.out)
    obtain ⟨p0, p1, p2, p3, p4⟩ := cell5 HS13.out.c7
    have n0 := frozen4 HS13.out.c7 0
    have m0 := frozen4 (HS13.out.bx _ HL2.out) 0
    have n1 := frozen4 HS13.out.c7 1
    have m1 := frozen4 (HS13.out.bx _ HL2.out) 1
    have n2 := frozen4 HS13.out.c7 2
    have m2 := frozen4 (HS13.out.bx _ HL2.out) 2
    have n3 := frozen4 HS13.out.c7 3
    have m3 := frozen4 (HS13.out.bx _ HL2.out) 3
    have n4 := frozen4 HS13.out.c7 4
    have m4 := frozen4 (HS13.out.bx _ HL2.out) 4
    go_wp2
    exact bodyPost_ret (ret5c Try.results47 rfl HFN.out.1) rfl HFN.out.2
  · obtain ⟨z0, z1, z2, z3, z4⟩ := cell5 (HS7.out.bx _ HL0.out)
    obtain ⟨y0, y1, y2, y3, y4⟩ := cell5 (HS7.out.bx _ HL1.out)
    obtain ⟨l0, l1, l2, l3, l4⟩ := cell5 (HS7.out.bx _ HL2.out)
    obtain ⟨p0, p1, p2, p3, p4⟩ := cell5 HS7.out.c7
    have n0 := frozen4 HS7.out.c7 0
    have m0 := frozen4 (HS7.out.bx _ HL2.out) 0
    have n1 := frozen4 HS7.out.c7 1
    have m1 := frozen4 (HS7.out.bx _ HL2.out) 1
    have n2 := frozen4 HS7.out.c7 2
    have m2 := frozen4 (HS7.out.bx _ HL2.out) 2
    have n3 := frozen4 HS7.out.c7 3
    have m3 := frozen4 (HS7.out.bx _ HL2.out) 3
    have n4 := frozen4 HS7.out.c7 4
    have m4 := frozen4 (HS7.out.bx _ HL2.out) 4
    go_upto_region 6 with fail
    have HG13 := Lib.hid (grown_set w7 q 4 (.bool true))
    have HT13 := Lib.hid (put_4 (.bool true) HS7.out.c7)
    have HS13 := Lib.hid (HS7.out.put HG13.out HT13.out)
    have HFI := Lib.hid (il_put (c := 4) (u := .bool true) HRA7.out HS7.out.c7)
    have HLA := Lib.hid (il_put (c := 4) (u := .bool true) HR7.out HS7.out.c7)
    have hnu : (A.alt B).nu = true := by
      show (A.nu || B.nu) = _
      rw [← HNU.out.1, ← HNU.out.2]; rfl
    have HFN := Lib.hid (HS13.out.fin (P := A.alt B) (cs := (.slice none 0 0, .slice none 0 0, .slice none 0 0, .slice none 0 0, .bool false)) HL2.out (HX.out.ok.alt HY.out.ok) rfl (fun i _ => rfl) (fun i j _ => rfl) HFI.out ((HX.out.sfi.mrg (HY.out.sfi.moved A.n)).congr fun i => (alt_fi HX.out.ok B i).symm) HLA.out ((HX.out.sla.mrg (HY.out.sla.moved A.n)).congr fun i => (alt_la HX.out.ok B i).symm))
    rw [hnu] at HFN
    obtain ⟨w13, hw⟩ : ∃ x, x = w7.setCell ⟨q, 4, none⟩ (.bool true) := ⟨_, rfl⟩
    rw [← hw] at HS13 HFN ⊢
    clear hw
    clear z0 z1 z2 z3 z4 y0 y1 y2 y3 y4 p0 p1 p2 p3 p4 l0 l1 l2 l3 l4 m0 m1 m2 m3 m4 n0 n1 n2 n3 n4
    obtain ⟨z0, z1, z2, z3, z4⟩ := cell5 (HS13.out.bx _ HL0.out)
    obtain ⟨y0, y1, y2, y3, y4⟩ := cell5 (HS13.out.bx _ HL1.out)
    obtain ⟨l0, l1, l2, l3, l4⟩ := cell5 (HS13.out.bx _ HL2.out)
    obtain ⟨p0, p1, p2, p3, p4⟩ := cell5 HS13.out.c7
    have n0 := frozen4 HS13.out.c7 0
    have m0 := frozen4 (HS13.out.bx _ HL2.out) 0
    have n1 := frozen4 HS13.out.c7 1
    have m1 := frozen4 (HS13.out.bx _ HL2.out) 1
    have n2 := frozen4 HS13.out.c7 2
    have m2 := frozen4 (HS13.out.bx _ HL2.out) 2
    have n3 := frozen4 HS13.out.c7 3
    have m3 := frozen4 (HS13.out.bx _ HL2.out) 3
    have n4 := frozen4 HS13.out.c7 4
    have m4 := frozen4 (HS13.out.bx _ HL2.out) 4
    go_wp2
    exact bodyPost_ret (ret5c Try.results47 rfl HFN.out.1) rfl HFN.out.2
  · obtain ⟨z0, z1, z2, z3, z4⟩ := cell5 (HS7.out.bx _ HL0.out)
    obtain ⟨y0, y1, y2, y3, y4⟩ := cell5 (HS7.out.bx _ HL1.out)
    obtain ⟨l0, l1, l2, l3, l4⟩ := cell5 (HS7.out.bx _ HL2.out)
    obtain ⟨p0, p1, p2, p3, p4⟩ := cell5 HS7.out.c7
    have n0 := frozen4 HS7.out.c7 0
    have m0 := frozen4 (HS7.out.bx _ HL2.out) 0
    have n1 := frozen4 HS7.out.c7 1
    have m1 := frozen4 (HS7.out.bx _ HL2.out) 1
    have n2 := frozen4 HS7.out.c7 2
    have m2 := frozen4 (HS7.out.bx _ HL2.out) 2
    have n3 := frozen4 HS7.out.c7 3
    have m3 := frozen4 (HS7.out.bx _ HL2.out) 3
    have n4 := frozen4 HS7.out.c7 4
    have m4 := frozen4 (HS7.out.bx _ HL2.out) 4
    go_upto_region 6 with fail
    have HG13 := Lib.hid (grown_set w7 q 4 (.bool true))
    have HT13 := Lib.hid (put_4 (.bool true) HS7.out.c7)
    have HS13 := Lib.hid (HS7.out.put HG13.out HT13.out)
    have HFI := Lib.hid (il_put (c := 4) (u := .bool true) HRA7.out HS7.out.c7)
    have HLA := Lib.hid (il_put (c := 4) (u := .bool true) HR7.out HS7.out.c7)
    have hnu : (A.alt B).nu = true := by
      show (A.nu || B.nu) = _
      rw [← HNU.out.1, ← HNU.out.2]; rfl
    have HFN := Lib.hid (HS13.out.fin (P := A.alt B) (cs := (.slice none 0 0, .slice none 0 0, .slice none 0 0, .slice none 0 0, .bool false)) HL2.out (HX.out.ok.alt HY.out.ok) rfl (fun i _ => rfl) (fun i j _ => rfl) HFI.out ((HX.out.sfi.mrg (HY.out.sfi.moved A.n)).congr fun i => (alt_fi HX.out.ok B i).symm) HLA.out ((HX.out.sla.mrg (HY.out.sla.moved A.n)).congr fun i => (alt_la HX.out.ok B i).symm))
    rw [hnu] at HFN
    obtain ⟨w13, hw⟩ : ∃ x, x = w7.setCell ⟨q, 4, none⟩ (.bool true) := ⟨_, rfl⟩
    rw [← hw] at HS13 HFN ⊢
    clear hw
    clear z0 z1 z2 z3 z4 y0 y1 y2 y3 y4 p0 p1 p2 p3 p4 l0 l1 l2 l3 l4 m0 m1 m2 m3 m4 n0 n1 n2 n3 n4
    obtain ⟨z0, z1, z2, z3, z4⟩ := cell5 (HS13.out.bx _ HL0.out)
    obtain ⟨y0, y1, y2, y3, y4⟩ := cell5 (HS13.out.bx _ HL1.out)
    obtain ⟨l0, l1, l2, l3, l4⟩ := cell5 (HS13.out.bx _ HL2.out)
    obtain ⟨p0, p1, p2, p3, p4⟩ := cell5 HS13.out.c7
    have n0 := frozen4 HS13.out.c7 0
    have m0 := frozen4 (HS13.out.bx _ HL2.out) 0
    have n1 := frozen4 HS13.out.c7 1
    have m1 := frozen4 (HS13.out.bx _ HL2.out) 1
    have n2 := frozen4 HS13.out.c7 2
    have m2 := frozen4 (HS13.out.bx _ HL2.out) 2
    have n3 := frozen4 HS13.out.c7 3
    have m3 := frozen4 (HS13.out.bx _ HL2.out) 3
    have n4 := frozen4 HS13.out.c7 4
    have m4 := frozen4 (HS13.out.bx _ HL2.out) 4
    go_wp2
    exact bodyPost_ret (ret5c Try.results47 rfl HFN.out.1) rfl HFN.out.2
  · obtain ⟨z0, z1, z2, z3, z4⟩ := cell5 (HS7.out.bx _ HL0.out)
    obtain ⟨y0, y1, y2, y3, y4⟩ := cell5 (HS7.out.bx _ HL1.out)
    obtain ⟨l0, l1, l2, l3, l4⟩ := cell5 (HS7.out.bx _ HL2.out)
    obtain ⟨p0, p1, p2, p3, p4⟩ := cell5 HS7.out.c7
    have n0 := frozen4 HS7.out.c7 0
    have m0 := frozen4 (HS7.out.bx _ HL2.out) 0
    have n1 := frozen4 HS7.out.c7 1
    have m1 := frozen4 (HS7.out.bx _ HL2.out) 1
    have n2 := frozen4 HS7.out.c7 2
    have m2 := frozen4 (HS7.out.bx _ HL2.out) 2
    have n3 := frozen4 HS7.out.c7 3
    have m3 := frozen4 (HS7.out.bx _ HL2.out) 3
    have n4 := frozen4 HS7.out.c7 4
    have m4 := frozen4 (HS7.out.bx _ HL2.out) 4
    go_upto_region 6 with fail
    have HG13 := Lib.hid (grown_set w7 q 4 (.bool true))
    have HT13 := Lib.hid (put_4 (.bool true) HS7.out.c7)
    have HS13 := Lib.hid (HS7.out.put HG13.out HT13.out)
    have HFI := Lib.hid (il_put (c := 4) (u := .bool true) HRA7.out HS7.out.c7)
    have HLA := Lib.hid (il_put (c := 4) (u := .bool true) HR7.out HS7.out.c7)
    have hnu : (A.alt B).nu = true := by
      show (A.nu || B.nu) = _
      rw [← HNU.out.1, ← HNU.out.2]; rfl
    have HFN := Lib.hid (HS13.out.fin (P := A.alt B) (cs := (.slice none 0 0, .slice none 0 0, .slice none 0 0, .slice none 0 0, .bool false)) HL2.out (HX.out.ok.alt HY.out.ok) rfl (fun i _ => rfl) (fun i j _ => rfl) HFI.out ((HX.out.sfi.mrg (HY.out.sfi.moved A.n)).congr fun i => (alt_fi HX.out.ok B i).symm) HLA.out ((HX.out.sla.mrg (HY.out.sla.moved A.n)).congr fun i => (alt_la HX.out.ok B i).symm))
    rw [hnu] at HFN
    obtain ⟨w13, hw⟩ : ∃ x, x = w7.setCell ⟨q, 4, none⟩ (.bool true) := ⟨_, rfl⟩
    rw [← hw] at HS13 HFN ⊢
    clear hw
    clear z0 z1 z2 z3 z4 y0 y1 y2 y3 y4 p0 p1 p2 p3 p4 l0 l1 l2 l3 l4 m0 m1 m2 m3 m4 n0 n1 n2 n3 n4
    obtain ⟨z0, z1, z2, z3, z4⟩ := cell5 (HS13.out.bx _ HL0.out)
    obtain ⟨y0, y1, y2, y3, y4⟩ := cell5 (HS13.out.bx _ HL1.out)
    obtain ⟨l0, l1, l2, l3, l4⟩ := cell5 (HS13.out.bx _ HL2.out)
    obtain ⟨p0, p1, p2, p3, p4⟩ := cell5 HS13.out.c7
    have n0 := frozen4 HS13.out.c7 0
    have m0 := frozen4 (HS13.out.bx _ HL2.out) 0
    have n1 := frozen4 HS13.out.c7 1
    have m1 := frozen4 (HS13.out.bx _ HL2.out) 1
    have n2 := frozen4 HS13.out.c7 2
    have m2 := frozen4 (HS13.out.bx _ HL2.out) 2
    have n3 := frozen4 HS13.out.c7 3
    have m3 := frozen4 (HS13.out.bx _ HL2.out) 3
    have n4 := frozen4 HS13.out.c7 4
    have m4 := frozen4 (HS13.out.bx _ HL2.out) 4
    go_wp2
    exact bodyPost_ret (ret5c Try.results47 rfl HFN.out.1) rfl HFN.out.2
end Go.Proofs.Ytbahadgcmaabcaa
