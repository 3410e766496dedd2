/- Contracts of the document's cat and alt of layer 9. -/
import Derived.Test.YtbahadgcmaabcaaJq
namespace Go.Proofs.Ytbahadgcmaabcaa
open Go.RowKit Go
set_option maxRecDepth 100000 in
set_option maxHeartbeats 8000000 in
theorem cat_any9 (A B : Pl) (va vb : Value) (w : World) (ha : PlV w va A) (hb : PlV w vb B) (hn : A.n + B.n ≤ 900) : Calls Try.prog 46 #[va, vb] w (PlE w (A.cat B)) := by
  obtain ⟨vs, vf, vl, vo, lf, ll, us, F, rfl, hX⟩ := ha
  obtain ⟨ws, wf, wl, wo, kf, kl, ts, E, rfl, hY⟩ := hb
  have HX := Lib.hid hX
  have HY := Lib.hid hY
  obtain ⟨⟨a1, c1, rfl, _⟩, ⟨a2, c2, rfl, _⟩, _, ⟨a3, c3, rfl, _, hc3, _⟩, _, ⟨a4, c4, rfl, _⟩, _, _⟩ := hX
  obtain ⟨⟨d1, e1, rfl, _⟩, ⟨d2, e2, rfl, _⟩, _, ⟨d3, e3, rfl, _⟩, _, ⟨d4, e4, rfl, _⟩, _, _⟩ := hY
  obtain ⟨ba, hba⟩ : ∃ b, b = A.nu := ⟨_, rfl⟩
  obtain ⟨bb, hbb⟩ : ∃ b, b = B.nu := ⟨_, rfl⟩
  have HVA : Hid (PlV w (plV (.slice a1 A.n c1) (.slice a2 lf.length c2) (.slice a3 ll.length c3) (.slice a4 A.n c4) ba) A) := Lib.hid (by rw [hba]; exact ⟨_, _, _, _, _, _, _, _, rfl, HX.out⟩)
  have HVB : Hid (PlV w (plV (.slice d1 B.n e1) (.slice d2 kf.length e2) (.slice d3 kl.length e3) (.slice d4 B.n e4) bb) B) := Lib.hid (by rw [hbb]; exact ⟨_, _, _, _, _, _, _, _, rfl, HY.out⟩)
  rw [← hba, ← hbb]
  have HNU := Lib.hid (And.intro hba hbb)
  obtain ⟨w3, hw3⟩ : ∃ w3, w3 = ((w.alloc (.cells (pl5 (.slice a1 A.n c1) (.slice a2 lf.length c2) (.slice a3 ll.length c3) (.slice a4 A.n c4) ba) 40)).alloc (.cells (pl5 (.slice d1 B.n e1) (.slice d2 kf.length e2) (.slice d3 kl.length e3) (.slice d4 B.n e4) bb) 40)).alloc (.cells pl0 40) := ⟨_, rfl⟩
  have hb3 : Below w.heap.size w w3 := by rw [hw3]; exact below_alloc3 _ _ _ _
  obtain ⟨b0, b1, b2⟩ := heap3 w (.cells (pl5 (.slice a1 A.n c1) (.slice a2 lf.length c2) (.slice a3 ll.length c3) (.slice a4 A.n c4) ba) 40) (.cells (pl5 (.slice d1 B.n e1) (.slice d2 kf.length e2) (.slice d3 kl.length e3) (.slice d4 B.n e4) bb) 40) (.cells pl0 40)
  rw [← hw3] at b0 b1 b2
  have HB0 := Lib.hid b0
  have HB1 := Lib.hid b1
  have HB2 := Lib.hid b2
  have HBB := Lib.hid hb3
  have HBO := Lib.hid (both_any A B _ _ w3 (HVA.out.below hb3) (HVB.out.below hb3) hn)
  have hrf := HY.out.sfi.range (n := B.n) HY.out.ok.fi
  have hrl := HY.out.sla.range (n := B.n) HY.out.ok.la
  have hlf := HY.out.sfi.len (n := B.n) HY.out.ok.fi
  have hll := HY.out.sla.len (n := B.n) HY.out.ok.la
  have hlA := HX.out.sla.len (n := A.n) HX.out.ok.la
  have hfA := HX.out.sfi.len (n := A.n) HX.out.ok.fi
  have HLEN := Lib.hid (show kf.length ≤ 900 ∧ kl.length ≤ 900 ∧ lf.length ≤ 900 ∧ ll.length ≤ 900 from ⟨by omega, by omega, by omega, by omega⟩)
  have HM1 : Hid (∀ W, Below w.heap.size w W → Calls Try.prog 63 #[.slice d2 kf.length e2, .int .i64 (A.n : Int)] W (GivesL W (kf.map fun x => x + (A.n : Int)))) := Lib.hid fun W h => moved_any kf (A.n : Int) _ W (HY.out.ffi.below h) (by omega) (by omega) fun x hx => by have := hrf x hx; omega
  have HM2 : Hid (∀ W, Below w.heap.size w W → Calls Try.prog 63 #[.slice d3 kl.length e3, .int .i64 (A.n : Int)] W (GivesL W (kl.map fun x => x + (A.n : Int)))) := Lib.hid fun W h => moved_any kl (A.n : Int) _ W (HY.out.fla.below h) (by omega) (by omega) fun x hx => by have := hrl x hx; omega
  have HQ := Lib.hid (show w.heap.size < w3.heap.size ∧ w.heap.size + 1 < w3.heap.size ∧ w.heap.size + 2 < w3.heap.size ∧ w.heap.size ≤ w3.heap.size from ⟨lt_heap b0, lt_heap b1, lt_heap b2, hb3.size⟩)
  have HST : Hid (∀ (W4 : World) (sv vo : Value) (us' : Nat → Value) (F' : Nat → List Int), Below w3.heap.size w3 W4 → W4.ownsRow w3.heap.size 24 4 sv (A.n + B.n) (flatW (bset A B) (A.n + B.n)) → W4.ownsRow w3.heap.size 37 1 vo (A.n + B.n) (rowV us' (A.n + B.n)) → (∀ i, i < A.n + B.n → IL W4 (us' i) (F' i) ∧ IsL (F' i) (bfo A B i)) →
      BoS w (A.n + B.n) (bset A B) (bfo A B) [(w.heap.size, pl5 (.slice a1 A.n c1) (.slice a2 lf.length c2) (.slice a3 ll.length c3) (.slice a4 A.n c4) ba), (w.heap.size + 1, pl5 (.slice d1 B.n e1) (.slice d2 kf.length e2) (.slice d3 kl.length e3) (.slice d4 B.n e4) bb), (w.heap.size + 2, pl0)] W4.heap.size sv (.slice none 0 0) (.slice none 0 0) vo (.bool false) (W4.alloc (.cells (pl5 sv (.slice none 0 0) (.slice none 0 0) vo false) 40))) := Lib.hid fun W4 sv vo us' F' h hs hr hl => by
    have hba := alloc_below W4 (.cells (pl5 sv (.slice none 0 0) (.slice none 0 0) vo false) 40)
    have hsz := h.size
    refine ⟨us', F', ⟨fun x hx => ?_, heap_alloc_new _ _, by have := HQ.out; omega, (HBB.out.trans (h.mono HQ.out.2.2.2)).trans (hba.mono (by have := HQ.out; omega)), ownsRow_base (hs.alloc _) HQ.out.2.2.2, ownsRow_base (hr.alloc _) HQ.out.2.2.2, fun i hi => (hl i hi).1.below hba⟩, fun i hi => (hl i hi).2⟩
    simp only [List.mem_cons, List.not_mem_nil, or_false] at hx
    have hq := HQ.out
    rcases hx with rfl | rfl | rfl
    · exact ⟨(hba.block _ (by show w.heap.size < _; omega)).trans ((h.block _ HQ.out.1).trans HB0.out), by show w.heap.size ≠ _; omega, Nat.le_refl _⟩
    · exact ⟨(hba.block _ (by show w.heap.size + 1 < _; omega)).trans ((h.block _ HQ.out.2.1).trans HB1.out), by show w.heap.size + 1 ≠ _; omega, Nat.le_succ _⟩
    · exact ⟨(hba.block _ (by show w.heap.size + 2 < _; omega)).trans ((h.block _ HQ.out.2.2.1).trans HB2.out), by show w.heap.size + 2 ≠ _; omega, by show w.heap.size ≤ w.heap.size + 2; omega⟩
  obtain ⟨x0, x1, x2, x3, x4⟩ := cell5 b0
  obtain ⟨y0, y1, y2, y3, y4⟩ := cell5 b1
  clear hb3 b0 b1 b2 hba hbb hrf hrl hlf hll hlA hfA
  subst hw3
  go_enter Try.func46, Try.ntmps46
  go_wp2_with fail
  refine HBO.out.mono ?_
  rintro e w4 ⟨sv, vo, us', F', rfl, hs, hr, hl, hb4⟩
  obtain ⟨w3, hw3⟩ : ∃ w3, w3 = ((w.alloc (.cells (pl5 (.slice a1 A.n c1) (.slice a2 lf.length c2) (.slice a3 ll.length c3) (.slice a4 A.n c4) ba) 40)).alloc (.cells (pl5 (.slice d1 B.n e1) (.slice d2 kf.length e2) (.slice d3 kl.length e3) (.slice d4 B.n e4) bb) 40)).alloc (.cells pl0 40) := ⟨_, rfl⟩
  rw [← hw3] at hs hr hb4 HST HQ HBB HB0 HB1 HB2
  have HBS := Lib.hid (HST.out w4 _ _ _ _ hb4 hs hr hl)
  obtain ⟨⟨sa, sc, rfl⟩, ov, oc, rfl⟩ := HBS.out.forms
  clear hs hr hl hb4 HST hw3 x0 x1 x2 x3 x4 y0 y1 y2 y3 y4
  go_upto_region 3 with fail
  obtain ⟨w5, hw5⟩ : ∃ x, x = w4.alloc (.cells (pl5 (.slice sa (A.n + B.n) sc) (.slice none 0 0) (.slice none 0 0) (.slice ov (A.n + B.n) oc) false) 40) := ⟨_, rfl⟩
  obtain ⟨q, hq⟩ : ∃ q, q = w4.heap.size := ⟨_, rfl⟩
  obtain ⟨L, hL⟩ : ∃ L, L = [(w.heap.size, pl5 (.slice a1 A.n c1) (.slice a2 lf.length c2) (.slice a3 ll.length c3) (.slice a4 A.n c4) ba), (w.heap.size + 1, pl5 (.slice d1 B.n e1) (.slice d2 kf.length e2) (.slice d3 kl.length e3) (.slice d4 B.n e4) bb), (w.heap.size + 2, pl0)] := ⟨_, rfl⟩
  have HL0 : Hid ((w.heap.size, pl5 (.slice a1 A.n c1) (.slice a2 lf.length c2) (.slice a3 ll.length c3) (.slice a4 A.n c4) ba) ∈ L) := Lib.hid (by rw [hL]; simp)
  have HL1 : Hid ((w.heap.size + 1, pl5 (.slice d1 B.n e1) (.slice d2 kf.length e2) (.slice d3 kl.length e3) (.slice d4 B.n e4) bb) ∈ L) := Lib.hid (by rw [hL]; simp)
  have HL2 : Hid ((w.heap.size + 2, pl0) ∈ L) := Lib.hid (by rw [hL]; simp)
  rw [← hw5, ← hq, ← hL] at HBS
  rw [← hw5, ← hq]
  clear hw5 hq hL
  have hbw : Below w.heap.size w w5 := HBS.out.bel
  have HBW := Lib.hid hbw
  have HSZ := Lib.hid hbw.size
  clear hbw
  have y1 := (cell5 (HBS.out.bx _ HL1.out)).2.1
  have y2 := (cell5 (HBS.out.bx _ HL1.out)).2.2.1
  have hqq1 : w.heap.size + 1 < w5.heap.size := lt_heap (HBS.out.bx _ HL1.out)
  have HKP : Hid (∀ W, Below w5.heap.size w5 W → W.cell? ⟨w.heap.size + 1, 1, none⟩ = some (.slice d2 kf.length e2) ∧ W.cell? ⟨w.heap.size + 1, 2, none⟩ = some (.slice d3 kl.length e3)) := Lib.hid fun W h => two_stand h (lt_heap (HBS.out.bx _ HL1.out)) (lt_heap (HBS.out.bx _ HL1.out)) (cell5 (HBS.out.bx _ HL1.out)).2.1 (cell5 (HBS.out.bx _ HL1.out)).2.2.1
  have HB0a : Below w5.heap.size w5 w5.drew := (Below.refl _ _).drew
  go_cut [7, 8] from 16 to 23 (fun x7 x8 wc => Hid (IL wc x7 (kf.map fun x => x + (A.n : Int))) ∧ Hid (IL wc x8 (kl.map fun x => x + (A.n : Int))) ∧ Hid (Below w5.heap.size w5 wc))
  case first =>
    go_wp2_with fail
    go_region_held3 (fun w' => w'.cell? ⟨w.heap.size + 1, 1, none⟩ = some (.slice d2 kf.length e2) ∧ w'.cell? ⟨w.heap.size + 1, 2, none⟩ = some (.slice d3 kl.length e3))
      ((first | with_reducible exact HKP.out _ HB0a | with_reducible exact HKP.out _ HBx | with_reducible exact HKP.out _ HBy))
      (first
        | (go_at_call 63; (with_reducible refine (HM1.out _ ?sb).mono ?_); (case sb => first | exact HBW.out.trans (HB0a.mono HSZ.out) | exact HBW.out.trans (HBy.mono HSZ.out)); rintro e wx ⟨vx, rfl, hilx, hbx⟩; have HBx : Below w5.heap.size w5 wx := (by first | exact HB0a.trans hbx | exact HBy.trans (hbx.mono HBy.size)); have hilx' := hilx; obtain ⟨fa, fc, rfl, _⟩ := hilx; rw [List.length_map] at hilx'; have HILX := Lib.hid hilx'; clear hilx')
        | (go_at_call 63; (with_reducible refine (HM2.out _ ?sb).mono ?_); (case sb => first | exact HBW.out.trans (HB0a.mono HSZ.out) | exact HBW.out.trans (HBx.mono HSZ.out)); rintro e wy ⟨vy, rfl, hily, hby⟩; have HBy : Below w5.heap.size w5 wy := (by first | exact HB0a.trans hby | exact HBx.trans (hby.mono HBx.size)); have hily' := hily; obtain ⟨ga, gc, rfl, _⟩ := hily; rw [List.length_map] at hily'; have HILY := Lib.hid hily'; clear hily'))
    · have HZ := Lib.hid (HILX.out.below hby)
      have HZ2 := Lib.hid HBy
      go_wp2
      go_meet
      exact ⟨HZ, HILY, HZ2⟩
  case rest =>
    obtain ⟨HI7, HI8, HBC⟩ := hcut
    have hi7 := HI7.out
    have hi8 := HI8.out
    obtain ⟨f7, k7, rfl, _⟩ := hi7
    obtain ⟨f8, k8, rfl, _⟩ := hi8
    rw [List.length_map] at HI7 HI8 ⊢
    have HS6 := Lib.hid (HBS.out.below HBC.out)
    have hsfi := (HY.out.sfi.moved A.n)
    have HFP := Lib.hid hsfi
    have HF0 : Hid (∀ i, A.n + B.n ≤ i → sh B.fi A.n i = false) := Lib.hid fun i hi => sh_out (m := B.n) HY.out.ok.fi i hi
    have HFO : Hid (∀ i t, A.n + B.n ≤ t → bfo A B i t = false) := Lib.hid fun i t h => bfo_out HX.out.ok HY.out.ok i t h
    have HAT : Hid (∀ j, j < ll.length → ∃ x : Nat, ll.getD j 0 = (x : Int) ∧ x < A.n + B.n) := Lib.hid fun j hj => by
      have hm : ll.getD j 0 ∈ ll := by rw [List.getD_eq_getElem?_getD, List.getElem?_eq_getElem hj]; exact List.getElem_mem hj
      obtain ⟨x, e, _⟩ := (HX.out.sla.2 _).1 hm
      have := HX.out.sla.range (n := A.n) HX.out.ok.la _ hm
      exact ⟨x, e, by omega⟩
    have HS7 : Hid (BoS w (A.n + B.n) (bset A B) (fun i t => bfo A B i t || (inT ll 0 i && sh B.fi A.n t)) L q (.slice sa (A.n + B.n) sc) (.slice none 0 0) (.slice none 0 0) (.slice ov (A.n + B.n) oc) (.bool false) wc) := Lib.hid (HS6.out.congr fun i t => by simp [inT_zero])
    have HWC := Lib.hid HS6.out.bel
    have HMM : Hid ((kf.map fun x => x + (A.n : Int)).length = kf.length) := Lib.hid (List.length_map _)
    clear hsfi HBS HKP HB0a y1 y2 hqq1
    obtain ⟨mf, hmf⟩ : ∃ mf, mf = kf.map fun x => x + (A.n : Int) := ⟨_, rfl⟩
    rw [← hmf] at HI7 HFP HMM
    have HMF := Lib.hid hmf
    clear hmf
    have z3 := (cell5 (HS6.out.bx _ HL0.out)).2.2.1
    go_upto_region 4 with fail
    go_wp2_with fail
    obtain ⟨wd, hd⟩ : ∃ x, x = wc := ⟨wc, rfl⟩
    rw [← hd] at HI7 HI8 HS7 HWC z3 ⊢
    clear hd HS6
    go_loopw [9] (fun c wr => ∃ j : Nat, j ≤ ll.length ∧ c = .int .i64 j ∧ Hid (BoS w (A.n + B.n) (bset A B) (fun i t => bfo A B i t || (inT ll j i && sh B.fi A.n t)) L q (.slice sa (A.n + B.n) sc) (.slice none 0 0) (.slice none 0 0) (.slice ov (A.n + B.n) oc) (.bool false) wr) ∧ Hid (IL wr (.slice f7 kf.length k7) mf) ∧ Hid (IL wr (.slice f8 kl.length k8) (kl.map fun x => x + (A.n : Int)))) (fun c _ => ll.length - (intOf c).toNat)
    case atStart => exact ⟨0, by omega, rfl, HS7, HI7, HI8⟩
    case round =>
      obtain ⟨j, hj, rfl, HI, H7, H8⟩ := hrel
      have hbel := HI.out.bel
      obtain ⟨z0, z1, z2, z3', z4⟩ := cell5 (HI.out.bx _ HL0.out)
      obtain ⟨p0, p1, p2, p3, p4⟩ := cell5 HI.out.c7
      by_cases hlt : j < ll.length
      · have hlt' : (j : Int) < (ll.length : Int) := by omega
        obtain ⟨x, hx, hxm⟩ := HAT.out j hlt
        obtain ⟨gf, c, vx, lx, hvo, hc1, hc2, hK⟩ := HI.out.round hlt hx hxm HF0.out HFO.out
        injection hvo with hv1 _ hv3
        subst hv1 hv3
        have HK := Lib.hid hK
        obtain ⟨gl, ol, cl, he, hgl, cj⟩ := il_cells2 HX.out.fla hbel hlt
        injection he with he1 _ he3
        rw [hx] at cj
        rw [he1] at z2
        have hxi : (x : Int) < ((A.n + B.n : Nat) : Int) := by omega
        have hxi2 : (x : Int) < (A.n : Int) + (B.n : Int) := by omega
        have hel := hK.el
        have hfr := hK.fr
        have hil := hK.il
        obtain ⟨ax, cx, rfl, _⟩ := hil
        have hgw : gl < wr.heap.size := Nat.lt_of_lt_of_le hgl hbel.size
        have HKP : Hid (∀ W, Below wr.heap.size wr W → W.cell? ⟨q, 3, none⟩ = some (.slice (some ⟨gf, 0, none⟩) (A.n + B.n) oc) ∧ W.cell? ⟨w.heap.size, 2, none⟩ = some (.slice (some ⟨gl, ol, none⟩) ll.length c3) ∧ W.cell? ⟨gl, ol + j, none⟩ = some (.int .i64 (x : Int))) := Lib.hid fun W h => three_stand h (lt_heap HI.out.c7) (lt_heap (HI.out.bx _ HL0.out)) hgw p3 z2 cj
        have HKS : Hid (∀ W v, Below wr.heap.size wr W → (W.setCell ⟨gf, x, none⟩ v).cell? ⟨q, 3, none⟩ = some (.slice (some ⟨gf, 0, none⟩) (A.n + B.n) oc) ∧ (W.setCell ⟨gf, x, none⟩ v).cell? ⟨w.heap.size, 2, none⟩ = some (.slice (some ⟨gl, ol, none⟩) ll.length c3) ∧ (W.setCell ⟨gf, x, none⟩ v).cell? ⟨gl, ol + j, none⟩ = some (.int .i64 (x : Int))) := Lib.hid fun W v h => by
          obtain ⟨k1, k2, k3⟩ := HKP.out W h
          exact ⟨cell_set k1 HK.out.ne.1, cell_set k2 (HK.out.ne.2 _ HL0.out), cell_set k3 (by have := HK.out.lo; omega)⟩
        have HB0a : Below wr.heap.size wr wr.drew := (Below.refl _ _).drew
        have HLQ : Hid (lx.length + mf.length ≤ 5000) := Lib.hid (by have := HK.out.len; have := HLEN.out; rw [HMM.out]; omega)
        have HHE := Lib.hid (And.intro he1 he3)
        have HHX := Lib.hid hx
        have HBL := Lib.hid hbel
        clear z0 z1 z3' z4 p0 p1 p2 p4 hc1 he1 he3 hx hK hbel z3
        go_wp2_with fail
        refine wp_region_held_drew (S := (fun w' => w'.cell? ⟨q, 3, none⟩ = some (.slice (some ⟨gf, 0, none⟩) (A.n + B.n) oc) ∧ w'.cell? ⟨w.heap.size, 2, none⟩ = some (.slice (some ⟨gl, ol, none⟩) ll.length c3) ∧ w'.cell? ⟨gl, ol + j, none⟩ = some (.int .i64 (x : Int)))) (by kernel_rfl) ?_ (fun hHeld => ?_)
        · exact HKP.out _ HB0a
        refine wpAnyH_take (i := 0) (oi := { dst := some 31, op := Op.fieldAddr 40 (Operand.tmp 6) 3, type := 0, pos := "ref.go:61", after := #[], guard := none }) (v := ?_) rfl (by kernel_rfl) (by kernel_rfl) (by kernel_rfl) (fun _ _ _ h => h) (Or.inl ⟨by rfl, ?_⟩) (by assumption) ?_
        rotate_left
        · (intro w hSw; (try dsimp only at hSw); go_simp; try with_reducible rfl)
        try simp only [Act.put, List.setIfInBounds_toArray, List.set_cons_zero, List.set_cons_succ]
        refine wpAnyH_take (i := 1) (oi := { dst := some 32, op := Op.load 38 (Operand.tmp 31), type := 38, pos := "ref.go:61", after := #[{ on := 0, ground := Ground.data }], guard := none }) (v := ?_) rfl (by kernel_rfl) (by kernel_rfl) (by kernel_rfl) (fun _ _ _ h => h) (Or.inl ⟨by rfl, ?_⟩) (by assumption) ?_
        rotate_left
        · (intro w hSw; (try dsimp only at hSw); go_simp; try with_reducible rfl)
        try simp only [Act.put, List.setIfInBounds_toArray, List.set_cons_zero, List.set_cons_succ]
        refine wpAnyH_take (i := 2) (oi := { dst := some 33, op := Op.fieldAddr 40 (Operand.tmp 2) 2, type := 0, pos := "ref.go:61", after := #[], guard := none }) (v := ?_) rfl (by kernel_rfl) (by kernel_rfl) (by kernel_rfl) (fun _ _ _ h => h) (Or.inl ⟨by rfl, ?_⟩) (by assumption) ?_
        rotate_left
        · (intro w hSw; (try dsimp only at hSw); go_simp; try with_reducible rfl)
        try simp only [Act.put, List.setIfInBounds_toArray, List.set_cons_zero, List.set_cons_succ]
        refine wpAnyH_take (i := 3) (oi := { dst := some 34, op := Op.load 37 (Operand.tmp 33), type := 37, pos := "ref.go:61", after := #[{ on := 2, ground := Ground.data }], guard := none }) (v := ?_) rfl (by kernel_rfl) (by kernel_rfl) (by kernel_rfl) (fun _ _ _ h => h) (Or.inl ⟨by rfl, ?_⟩) (by assumption) ?_
        rotate_left
        · (intro w hSw; (try dsimp only at hSw); go_simp; try with_reducible rfl)
        try simp only [Act.put, List.setIfInBounds_toArray, List.set_cons_zero, List.set_cons_succ]
        refine wpAnyH_take (i := 4) (oi := { dst := some 35, op := Op.move (Operand.tmp 9), type := 3, pos := "ref.go:61", after := #[], guard := none }) (v := ?_) rfl (by kernel_rfl) (by kernel_rfl) (by kernel_rfl) (fun _ _ _ h => h) (Or.inl ⟨by rfl, ?_⟩) (by assumption) ?_
        rotate_left
        · (intro w hSw; (try dsimp only at hSw); go_simp; try with_reducible rfl)
        try simp only [Act.put, List.setIfInBounds_toArray, List.set_cons_zero, List.set_cons_succ]
        refine wpAnyH_take (i := 5) (oi := { dst := some 36, op := Op.indexAddr 37 (Operand.tmp 34) (Operand.tmp 35), type := 0, pos := "ref.go:61", after := #[{ on := 3, ground := Ground.data }, { on := 4, ground := Ground.data }], guard := none }) (v := ?_) rfl (by kernel_rfl) (by kernel_rfl) (by kernel_rfl) (fun _ _ _ h => h) (Or.inl ⟨by rfl, ?_⟩) (by assumption) ?_
        rotate_left
        · (intro w hSw; (try dsimp only at hSw); go_simp; try with_reducible rfl)
        try simp only [Act.put, List.setIfInBounds_toArray, List.set_cons_zero, List.set_cons_succ]
        refine wpAnyH_take (i := 6) (oi := { dst := some 37, op := Op.load 3 (Operand.tmp 36), type := 3, pos := "ref.go:61", after := #[{ on := 5, ground := Ground.data }], guard := none }) (v := ?_) rfl (by kernel_rfl) (by kernel_rfl) (by kernel_rfl) (fun _ _ _ h => h) (Or.inl ⟨by rfl, ?_⟩) (by assumption) ?_
        rotate_left
        · (intro w hSw; (try dsimp only at hSw); go_simp; try with_reducible rfl)
        try simp only [Act.put, List.setIfInBounds_toArray, List.set_cons_zero, List.set_cons_succ]
        refine wpAnyH_take (i := 7) (oi := { dst := some 38, op := Op.fieldAddr 40 (Operand.tmp 6) 3, type := 0, pos := "ref.go:61", after := #[], guard := none }) (v := ?_) rfl (by kernel_rfl) (by kernel_rfl) (by kernel_rfl) (fun _ _ _ h => h) (Or.inl ⟨by rfl, ?_⟩) (by assumption) ?_
        rotate_left
        · (intro w hSw; (try dsimp only at hSw); go_simp; try with_reducible rfl)
        try simp only [Act.put, List.setIfInBounds_toArray, List.set_cons_zero, List.set_cons_succ]
        refine wpAnyH_take (i := 8) (oi := { dst := some 39, op := Op.load 38 (Operand.tmp 38), type := 38, pos := "ref.go:61", after := #[{ on := 7, ground := Ground.data }], guard := none }) (v := ?_) rfl (by kernel_rfl) (by kernel_rfl) (by kernel_rfl) (fun _ _ _ h => h) (Or.inl ⟨by rfl, ?_⟩) (by assumption) ?_
        rotate_left
        · (intro w hSw; (try dsimp only at hSw); go_simp; try with_reducible rfl)
        try simp only [Act.put, List.setIfInBounds_toArray, List.set_cons_zero, List.set_cons_succ]
        refine wpAnyH_take (i := 9) (oi := { dst := some 40, op := Op.fieldAddr 40 (Operand.tmp 2) 2, type := 0, pos := "ref.go:61", after := #[], guard := none }) (v := ?_) rfl (by kernel_rfl) (by kernel_rfl) (by kernel_rfl) (fun _ _ _ h => h) (Or.inl ⟨by rfl, ?_⟩) (by assumption) ?_
        rotate_left
        · (intro w hSw; (try dsimp only at hSw); go_simp; try with_reducible rfl)
        try simp only [Act.put, List.setIfInBounds_toArray, List.set_cons_zero, List.set_cons_succ]
        refine wpAnyH_take (i := 10) (oi := { dst := some 41, op := Op.load 37 (Operand.tmp 40), type := 37, pos := "ref.go:61", after := #[{ on := 9, ground := Ground.data }], guard := none }) (v := ?_) rfl (by kernel_rfl) (by kernel_rfl) (by kernel_rfl) (fun _ _ _ h => h) (Or.inl ⟨by rfl, ?_⟩) (by assumption) ?_
        rotate_left
        · (intro w hSw; (try dsimp only at hSw); go_simp; try with_reducible rfl)
        try simp only [Act.put, List.setIfInBounds_toArray, List.set_cons_zero, List.set_cons_succ]
        refine wpAnyH_take (i := 11) (oi := { dst := some 42, op := Op.move (Operand.tmp 9), type := 3, pos := "ref.go:61", after := #[], guard := none }) (v := ?_) rfl (by kernel_rfl) (by kernel_rfl) (by kernel_rfl) (fun _ _ _ h => h) (Or.inl ⟨by rfl, ?_⟩) (by assumption) ?_
        rotate_left
        · (intro w hSw; (try dsimp only at hSw); go_simp; try with_reducible rfl)
        try simp only [Act.put, List.setIfInBounds_toArray, List.set_cons_zero, List.set_cons_succ]
        refine wpAnyH_take (i := 12) (oi := { dst := some 43, op := Op.indexAddr 37 (Operand.tmp 41) (Operand.tmp 42), type := 0, pos := "ref.go:61", after := #[{ on := 10, ground := Ground.data }, { on := 11, ground := Ground.data }], guard := none }) (v := ?_) rfl (by kernel_rfl) (by kernel_rfl) (by kernel_rfl) (fun _ _ _ h => h) (Or.inl ⟨by rfl, ?_⟩) (by assumption) ?_
        rotate_left
        · (intro w hSw; (try dsimp only at hSw); go_simp; try with_reducible rfl)
        try simp only [Act.put, List.setIfInBounds_toArray, List.set_cons_zero, List.set_cons_succ]
        refine wpAnyH_take (i := 13) (oi := { dst := some 44, op := Op.load 3 (Operand.tmp 43), type := 3, pos := "ref.go:61", after := #[{ on := 12, ground := Ground.data }], guard := none }) (v := ?_) rfl (by kernel_rfl) (by kernel_rfl) (by kernel_rfl) (fun _ _ _ h => h) (Or.inl ⟨by rfl, ?_⟩) (by assumption) ?_
        rotate_left
        · (intro w hSw; (try dsimp only at hSw); go_simp; try with_reducible rfl)
        try simp only [Act.put, List.setIfInBounds_toArray, List.set_cons_zero, List.set_cons_succ]
        refine wpAnyH_take (i := 14) (oi := { dst := some 45, op := Op.indexAddr 38 (Operand.tmp 39) (Operand.tmp 44), type := 0, pos := "ref.go:61", after := #[{ on := 8, ground := Ground.data }, { on := 13, ground := Ground.data }], guard := none }) (v := ?_) rfl (by kernel_rfl) (by kernel_rfl) (by kernel_rfl) (fun _ _ _ h => h) (Or.inl ⟨by rfl, ?_⟩) (by assumption) ?_
        rotate_left
        · (intro w hSw; (try dsimp only at hSw); go_simp; try with_reducible rfl)
        try simp only [Act.put, List.setIfInBounds_toArray, List.set_cons_zero, List.set_cons_succ]
        refine wpAnyH_take (i := 16) (oi := { dst := some 47, op := Op.move (Operand.tmp 7), type := 37, pos := "ref.go:61", after := #[], guard := none }) (v := ?_) rfl (by kernel_rfl) (by kernel_rfl) (by kernel_rfl) (fun _ _ _ h => h) (Or.inl ⟨by rfl, ?_⟩) (by assumption) ?_
        rotate_left
        · (intro w hSw; (try dsimp only at hSw); go_simp; try with_reducible rfl)
        try simp only [Act.put, List.setIfInBounds_toArray, List.set_cons_zero, List.set_cons_succ]
        refine wpAnyH_ready (rs := [15]) (by kernel_rfl) (by simp) ?_
        refine AllReadyH.cons (o := { dst := some 46, op := Op.load 37 (Operand.tmp 45), type := 37, pos := "ref.go:61", after := #[{ on := 14, ground := Ground.data }], guard := none }) rfl (fun K hK => ?_) AllReadyH.nil
        go_simp
        refine hK.out _ _ ?_ (fun hHeld => ?_)
        · exact HKP.out _ HB0a
        clear hK K
        try simp only [Act.put, List.setIfInBounds_toArray, List.set_cons_zero, List.set_cons_succ]
        refine wpAnyH_ready (rs := [17]) (by kernel_rfl) (by simp) ?_
        refine AllReadyH.cons (o := { dst := some 48, op := Op.call { callee := Callee.value (Operand.func 17), args := #[Operand.tmp 46, Operand.tmp 47], argTypes := #[37, 37] }, type := 37, pos := "ref.go:61", after := #[{ on := 15, ground := Ground.data }, { on := 16, ground := Ground.data }], guard := none }) rfl (fun K hK => ?_) AllReadyH.nil
        go_simp
        refine (add_any9 lx mf _ _ wr.drew HK.out.il H7.out HK.out.up HLQ.out).mono ?_
        rintro e w6 ⟨v6, rfl, hil6, hb6⟩
        have HB6 : Below wr.heap.size wr w6 := undrew hb6
        have HIL6 := Lib.hid hil6
        obtain ⟨a6, c6, rfl, _⟩ := hil6
        have g6 := ((HB6.frozen (p := ⟨gf, x, none⟩) HK.out.lt)).trans hfr
        have el6 := ((HB6.cell (p := ⟨gf, x, none⟩) HK.out.lt)).trans hel
        go_wp2_with fail
        refine hK.out _ _ ?_ (fun hHeld => ?_)
        · exact HKP.out _ HB6
        clear hK K
        try simp only [Act.put, List.setIfInBounds_toArray, List.set_cons_zero, List.set_cons_succ]
        refine wpAnyH_take (i := 18) (oi := { dst := some 49, op := Op.indexAddr 38 (Operand.tmp 32) (Operand.tmp 37), type := 0, pos := "ref.go:61", after := #[{ on := 1, ground := Ground.data }, { on := 6, ground := Ground.data }, { on := 0, ground := Ground.phase }, { on := 1, ground := Ground.phase }, { on := 2, ground := Ground.phase }, { on := 3, ground := Ground.phase }, { on := 4, ground := Ground.phase }, { on := 5, ground := Ground.phase }, { on := 6, ground := Ground.phase }, { on := 7, ground := Ground.phase }, { on := 8, ground := Ground.phase }, { on := 9, ground := Ground.phase }, { on := 10, ground := Ground.phase }, { on := 11, ground := Ground.phase }, { on := 12, ground := Ground.phase }, { on := 13, ground := Ground.phase }, { on := 14, ground := Ground.phase }, { on := 15, ground := Ground.phase }, { on := 16, ground := Ground.phase }, { on := 17, ground := Ground.phase }], guard := none }) (v := ?_) rfl (by kernel_rfl) (by kernel_rfl) (by kernel_rfl) (fun _ _ _ h => h) (Or.inl ⟨by rfl, ?_⟩) (by assumption) ?_
        rotate_left
        · (intro w hSw; (try dsimp only at hSw); go_simp; try with_reducible rfl)
        try simp only [Act.put, List.setIfInBounds_toArray, List.set_cons_zero, List.set_cons_succ]
        refine wpAnyH_ready (rs := [19]) (by kernel_rfl) (by simp) ?_
        refine AllReadyH.cons (o := { dst := none, op := Op.store 37 (Operand.tmp 49) (Operand.tmp 48), type := 0, pos := "ref.go:61", after := #[{ on := 18, ground := Ground.data }, { on := 17, ground := Ground.data }, { on := 17, ground := Ground.chain }, { on := 0, ground := Ground.phase }, { on := 1, ground := Ground.phase }, { on := 2, ground := Ground.phase }, { on := 3, ground := Ground.phase }, { on := 4, ground := Ground.phase }, { on := 5, ground := Ground.phase }, { on := 6, ground := Ground.phase }, { on := 7, ground := Ground.phase }, { on := 8, ground := Ground.phase }, { on := 9, ground := Ground.phase }, { on := 10, ground := Ground.phase }, { on := 11, ground := Ground.phase }, { on := 12, ground := Ground.phase }, { on := 13, ground := Ground.phase }, { on := 14, ground := Ground.phase }, { on := 15, ground := Ground.phase }, { on := 16, ground := Ground.phase }, { on := 17, ground := Ground.phase }], guard := none }) rfl (fun K hK => ?_) AllReadyH.nil
        go_simp
        refine hK.out _ _ ?_ (fun hHeld => ?_)
        · exact HKS.out _ _ HB6
        clear hK K
        try simp only [Act.put, List.setIfInBounds_toArray, List.set_cons_zero, List.set_cons_succ]
        refine wpAnyH_done (by kernel_rfl) ?_ _
        have HN := Lib.hid (HK.out.next w6 _ mf HFP.out HB6 HIL6.out)
        have hH : ∀ v l, IL wr v l → IL (w6.setCell ⟨gf, x, none⟩ (.slice a6 (mrg lx mf).length c6)) v l := fun v l hv => il_setB (hv.below HB6) HB6 HK.out.tp
        have HN7 := Lib.hid (hH _ _ H7.out)
        have HN8 := Lib.hid (hH _ _ H8.out)
        have hj1 : j + 1 ≤ ll.length := hlt
        have hj9 : (j : Int) < 1000 := by have := HLEN.out; omega
        go_wp2
        go_roundw
        case rel => exact ⟨j + 1, hj1, by go_num, HN, HN7, HN8⟩
        case measure => simp [intOf]; omega
      · obtain rfl : j = ll.length := by omega
        have HS0 : Hid (BoS w (A.n + B.n) (bset A B) (A.cat B).fo L q (.slice sa (A.n + B.n) sc) (.slice none 0 0) (.slice none 0 0) (.slice ov (A.n + B.n) oc) (.bool false) wr) := Lib.hid (HI.out.congr fun i t => by rw [cat_fo HX.out.ok, inT_all HX.out.sla])
        clear z0 z1 z2 z3' z4 p0 p1 p2 p3 p4 z3 hlt hj hbel HI
        obtain ⟨z0, z1, z2, z3, z4⟩ := cell5 (HS0.out.bx _ HL0.out)
        obtain ⟨y0, y1, y2, y3, y4⟩ := cell5 (HS0.out.bx _ HL1.out)
        obtain ⟨l0, l1, l2, l3, l4⟩ := cell5 (HS0.out.bx _ HL2.out)
        obtain ⟨p0, p1, p2, p3, p4⟩ := cell5 HS0.out.c7
        have n0 := frozen4 HS0.out.c7 0
        have m0 := frozen4 (HS0.out.bx _ HL2.out) 0
        have n1 := frozen4 HS0.out.c7 1
        have m1 := frozen4 (HS0.out.bx _ HL2.out) 1
        have n2 := frozen4 HS0.out.c7 2
        have m2 := frozen4 (HS0.out.bx _ HL2.out) 2
        have n3 := frozen4 HS0.out.c7 3
        have m3 := frozen4 (HS0.out.bx _ HL2.out) 3
        have n4 := frozen4 HS0.out.c7 4
        have m4 := frozen4 (HS0.out.bx _ HL2.out) 4
        go_upto_region 9 with fail
        obtain ⟨w8, hw8⟩ : ∃ x, x = (wr.setCell ⟨q, 1, none⟩ (.slice a2 lf.length c2)).setCell ⟨q, 2, none⟩ (.slice f8 kl.length k8) := ⟨_, rfl⟩
        have HG8 := Lib.hid (grownBy_trans (grown_set wr q 1 (.slice a2 lf.length c2)) (grown_set _ q 2 (.slice f8 kl.length k8)))
        have HT8 := Lib.hid (put_2 (.slice f8 kl.length k8) (put_1 (.slice a2 lf.length c2) HS0.out.c7))
        have HF8 := Lib.hid (il_put (c := 2) (u := .slice f8 kl.length k8) (il_put (c := 1) (u := .slice a2 lf.length c2) H7.out HS0.out.c7) (put_1 (.slice a2 lf.length c2) HS0.out.c7))
        have HE8 := Lib.hid (il_put (c := 2) (u := .slice f8 kl.length k8) (il_put (c := 1) (u := .slice a2 lf.length c2) H8.out HS0.out.c7) (put_1 (.slice a2 lf.length c2) HS0.out.c7))
        rw [← hw8] at HG8 HT8 HF8 HE8 ⊢
        have HS8 := Lib.hid (HS0.out.put HG8.out HT8.out)
        clear hw8 HS0 H7 H8
        clear z0 z1 z2 z3 z4 y0 y1 y2 y3 y4 p0 p1 p2 p3 p4 l0 l1 l2 l3 l4 m0 m1 m2 m3 m4 n0 n1 n2 n3 n4
        obtain ⟨z0, z1, z2, z3, z4⟩ := cell5 (HS8.out.bx _ HL0.out)
        obtain ⟨y0, y1, y2, y3, y4⟩ := cell5 (HS8.out.bx _ HL1.out)
        obtain ⟨l0, l1, l2, l3, l4⟩ := cell5 (HS8.out.bx _ HL2.out)
        obtain ⟨p0, p1, p2, p3, p4⟩ := cell5 HS8.out.c7
        have n0 := frozen4 HS8.out.c7 0
        have m0 := frozen4 (HS8.out.bx _ HL2.out) 0
        have n1 := frozen4 HS8.out.c7 1
        have m1 := frozen4 (HS8.out.bx _ HL2.out) 1
        have n2 := frozen4 HS8.out.c7 2
        have m2 := frozen4 (HS8.out.bx _ HL2.out) 2
        have n3 := frozen4 HS8.out.c7 3
        have m3 := frozen4 (HS8.out.bx _ HL2.out) 3
        have n4 := frozen4 HS8.out.c7 4
        have m4 := frozen4 (HS8.out.bx _ HL2.out) 4
        have HSM := Lib.hid (HY.out.sla.moved A.n)
        have HLM := Lib.hid (show (kl.map fun x => x + (A.n : Int)).length = kl.length from List.length_map _)
        cases ba <;> cases bb
        · go_upto_region 14 with fail
          have HG13 := Lib.hid (grown_set w8 q 4 (.bool false))
          have HT13 := Lib.hid (put_4 (.bool false) HS8.out.c7)
          have HS13 := Lib.hid (HS8.out.put HG13.out HT13.out)
          have HFI := Lib.hid (il_put (c := 4) (u := .bool false) (HX.out.ffi.below HS8.out.bel) HS8.out.c7)
          have HLA := Lib.hid (il_put (c := 4) (u := .bool false) HE8.out HS8.out.c7)
          have hnu : (A.cat B).nu = false := by
            show (A.nu && B.nu) = _
            rw [← HNU.out.1, ← HNU.out.2]; rfl
          have HFN := Lib.hid (HS13.out.fin (P := A.cat B) (cs := (.slice none 0 0, .slice none 0 0, .slice none 0 0, .slice none 0 0, .bool false)) HL2.out (HX.out.ok.cat HY.out.ok) rfl (fun i _ => rfl) (fun i j _ => rfl) HFI.out (HX.out.sfi.congr fun i => by rw [cat_fi HX.out.ok, ← HNU.out.1]; simp) HLA.out (HSM.out.congr fun i => by rw [cat_la HX.out.ok, ← HNU.out.2]; simp))
          rw [hnu] at HFN
          obtain ⟨w13, hw⟩ : ∃ x, x = w8.setCell ⟨q, 4, none⟩ (.bool false) := ⟨_, rfl⟩
          rw [← hw] at HS13 HFN ⊢
          clear hw
          clear z0 z1 z2 z3 z4 y0 y1 y2 y3 y4 p0 p1 p2 p3 p4 l0 l1 l2 l3 l4 m0 m1 m2 m3 m4 n0 n1 n2 n3 n4
          obtain ⟨z0, z1, z2, z3, z4⟩ := cell5 (HS13.out.bx _ HL0.out)
          obtain ⟨y0, y1, y2, y3, y4⟩ := cell5 (HS13.out.bx _ HL1.out)
          obtain ⟨l0, l1, l2, l3, l4⟩ := cell5 (HS13.out.bx _ HL2.out)
          obtain ⟨p0, p1, p2, p3, p4⟩ := cell5 HS13.out.c7
          have n0 := frozen4 HS13.out.c7 0
          have m0 := frozen4 (HS13.out.bx _ HL2.out) 0
          have n1 := frozen4 HS13.out.c7 1
          have m1 := frozen4 (HS13.out.bx _ HL2.out) 1
          have n2 := frozen4 HS13.out.c7 2
          have m2 := frozen4 (HS13.out.bx _ HL2.out) 2
          have n3 := frozen4 HS13.out.c7 3
          have m3 := frozen4 (HS13.out.bx _ HL2.out) 3
          have n4 := frozen4 HS13.out.c7 4
          have m4 := frozen4 (HS13.out.bx _ HL2.out) 4
          go_wp2
          exact bodyPost_ret (ret5c Try.results46 rfl HFN.out.1) rfl HFN.out.2
        · go_wp2_with fail
          refine (add_any9 ll (kl.map fun x => x + (A.n : Int)) _ _ w8 (HX.out.fla.below HS8.out.bel) HE8.out HX.out.sla.1 (by have := HLEN.out; have := HMM.out; (try simp only [List.length_map]); omega)).mono ?_
          rintro e w11 ⟨v11, rfl, hil, hb⟩
          have Ht := Lib.hid hil
          have HS11 := Lib.hid (HS8.out.below hb)
          have HB11 := Lib.hid hb
          obtain ⟨ta, tc, rfl, _⟩ := hil
          clear hb
          clear z0 z1 z2 z3 z4 y0 y1 y2 y3 y4 p0 p1 p2 p3 p4 l0 l1 l2 l3 l4 m0 m1 m2 m3 m4 n0 n1 n2 n3 n4
          obtain ⟨z0, z1, z2, z3, z4⟩ := cell5 (HS11.out.bx _ HL0.out)
          obtain ⟨y0, y1, y2, y3, y4⟩ := cell5 (HS11.out.bx _ HL1.out)
          obtain ⟨l0, l1, l2, l3, l4⟩ := cell5 (HS11.out.bx _ HL2.out)
          obtain ⟨p0, p1, p2, p3, p4⟩ := cell5 HS11.out.c7
          have n0 := frozen4 HS11.out.c7 0
          have m0 := frozen4 (HS11.out.bx _ HL2.out) 0
          have n1 := frozen4 HS11.out.c7 1
          have m1 := frozen4 (HS11.out.bx _ HL2.out) 1
          have n2 := frozen4 HS11.out.c7 2
          have m2 := frozen4 (HS11.out.bx _ HL2.out) 2
          have n3 := frozen4 HS11.out.c7 3
          have m3 := frozen4 (HS11.out.bx _ HL2.out) 3
          have n4 := frozen4 HS11.out.c7 4
          have m4 := frozen4 (HS11.out.bx _ HL2.out) 4
          go_upto_region 13 with fail
          obtain ⟨w12, hw⟩ : ∃ x, x = w11.setCell ⟨q, 2, none⟩ (.slice ta (mrg ll (kl.map fun x => x + (A.n : Int))).length tc) := ⟨_, rfl⟩
          have HG12 := Lib.hid (grown_set w11 q 2 (.slice ta (mrg ll (kl.map fun x => x + (A.n : Int))).length tc))
          have HT12 := Lib.hid (put_2 (.slice ta (mrg ll (kl.map fun x => x + (A.n : Int))).length tc) HS11.out.c7)
          have Ht' := Lib.hid (il_put (c := 2) (u := (.slice ta (mrg ll (kl.map fun x => x + (A.n : Int))).length tc)) Ht.out HS11.out.c7)
          have HE12 := Lib.hid (il_put (c := 2) (u := (.slice ta (mrg ll (kl.map fun x => x + (A.n : Int))).length tc)) (HE8.out.below HB11.out) HS11.out.c7)
          have HF12 := Lib.hid (il_put (c := 2) (u := (.slice ta (mrg ll (kl.map fun x => x + (A.n : Int))).length tc)) (HF8.out.below HB11.out) HS11.out.c7)
          rw [← hw] at HG12 HT12 Ht' HE12 HF12 ⊢
          have HS12 := Lib.hid (HS11.out.put HG12.out HT12.out)
          clear hw
          clear z0 z1 z2 z3 z4 y0 y1 y2 y3 y4 p0 p1 p2 p3 p4 l0 l1 l2 l3 l4 m0 m1 m2 m3 m4 n0 n1 n2 n3 n4
          obtain ⟨z0, z1, z2, z3, z4⟩ := cell5 (HS12.out.bx _ HL0.out)
          obtain ⟨y0, y1, y2, y3, y4⟩ := cell5 (HS12.out.bx _ HL1.out)
          obtain ⟨l0, l1, l2, l3, l4⟩ := cell5 (HS12.out.bx _ HL2.out)
          obtain ⟨p0, p1, p2, p3, p4⟩ := cell5 HS12.out.c7
          have n0 := frozen4 HS12.out.c7 0
          have m0 := frozen4 (HS12.out.bx _ HL2.out) 0
          have n1 := frozen4 HS12.out.c7 1
          have m1 := frozen4 (HS12.out.bx _ HL2.out) 1
          have n2 := frozen4 HS12.out.c7 2
          have m2 := frozen4 (HS12.out.bx _ HL2.out) 2
          have n3 := frozen4 HS12.out.c7 3
          have m3 := frozen4 (HS12.out.bx _ HL2.out) 3
          have n4 := frozen4 HS12.out.c7 4
          have m4 := frozen4 (HS12.out.bx _ HL2.out) 4
          go_upto_region 14 with fail
          have HG13 := Lib.hid (grown_set w12 q 4 (.bool false))
          have HT13 := Lib.hid (put_4 (.bool false) HS12.out.c7)
          have HS13 := Lib.hid (HS12.out.put HG13.out HT13.out)
          have HFI := Lib.hid (il_put (c := 4) (u := .bool false) (HX.out.ffi.below HS12.out.bel) HS12.out.c7)
          have HLA := Lib.hid (il_put (c := 4) (u := .bool false) Ht'.out HS12.out.c7)
          have hnu : (A.cat B).nu = false := by
            show (A.nu && B.nu) = _
            rw [← HNU.out.1, ← HNU.out.2]; rfl
          have HFN := Lib.hid (HS13.out.fin (P := A.cat B) (cs := (.slice none 0 0, .slice none 0 0, .slice none 0 0, .slice none 0 0, .bool false)) HL2.out (HX.out.ok.cat HY.out.ok) rfl (fun i _ => rfl) (fun i j _ => rfl) HFI.out (HX.out.sfi.congr fun i => by rw [cat_fi HX.out.ok, ← HNU.out.1]; simp) HLA.out ((HX.out.sla.mrg HSM.out).congr fun i => by rw [cat_la HX.out.ok, ← HNU.out.2]; simp))
          rw [hnu] at HFN
          obtain ⟨w13, hw⟩ : ∃ x, x = w12.setCell ⟨q, 4, none⟩ (.bool false) := ⟨_, rfl⟩
          rw [← hw] at HS13 HFN ⊢
          clear hw
          clear z0 z1 z2 z3 z4 y0 y1 y2 y3 y4 p0 p1 p2 p3 p4 l0 l1 l2 l3 l4 m0 m1 m2 m3 m4 n0 n1 n2 n3 n4
          obtain ⟨z0, z1, z2, z3, z4⟩ := cell5 (HS13.out.bx _ HL0.out)
          obtain ⟨y0, y1, y2, y3, y4⟩ := cell5 (HS13.out.bx _ HL1.out)
          obtain ⟨l0, l1, l2, l3, l4⟩ := cell5 (HS13.out.bx _ HL2.out)
          obtain ⟨p0, p1, p2, p3, p4⟩ := cell5 HS13.out.c7
          have n0 := frozen4 HS13.out.c7 0
          have m0 := frozen4 (HS13.out.bx _ HL2.out) 0
          have n1 := frozen4 HS13.out.c7 1
          have m1 := frozen4 (HS13.out.bx _ HL2.out) 1
          have n2 := frozen4 HS13.out.c7 2
          have m2 := frozen4 (HS13.out.bx _ HL2.out) 2
          have n3 := frozen4 HS13.out.c7 3
          have m3 := frozen4 (HS13.out.bx _ HL2.out) 3
          have n4 := frozen4 HS13.out.c7 4
          have m4 := frozen4 (HS13.out.bx _ HL2.out) 4
          go_wp2
          exact bodyPost_ret (ret5c Try.results46 rfl HFN.out.1) rfl HFN.out.2
        · go_wp2_with fail
          refine (add_any9 lf mf _ _ w8 (HX.out.ffi.below HS8.out.bel) HF8.out HX.out.sfi.1 (by have := HLEN.out; have := HMM.out; (try simp only [List.length_map]); omega)).mono ?_
          rintro e w9 ⟨v9, rfl, hil, hb⟩
          have Hs := Lib.hid hil
          have HS9 := Lib.hid (HS8.out.below hb)
          have HB9 := Lib.hid hb
          obtain ⟨sa, sc, rfl, _⟩ := hil
          clear hb
          clear z0 z1 z2 z3 z4 y0 y1 y2 y3 y4 p0 p1 p2 p3 p4 l0 l1 l2 l3 l4 m0 m1 m2 m3 m4 n0 n1 n2 n3 n4
          obtain ⟨z0, z1, z2, z3, z4⟩ := cell5 (HS9.out.bx _ HL0.out)
          obtain ⟨y0, y1, y2, y3, y4⟩ := cell5 (HS9.out.bx _ HL1.out)
          obtain ⟨l0, l1, l2, l3, l4⟩ := cell5 (HS9.out.bx _ HL2.out)
          obtain ⟨p0, p1, p2, p3, p4⟩ := cell5 HS9.out.c7
          have n0 := frozen4 HS9.out.c7 0
          have m0 := frozen4 (HS9.out.bx _ HL2.out) 0
          have n1 := frozen4 HS9.out.c7 1
          have m1 := frozen4 (HS9.out.bx _ HL2.out) 1
          have n2 := frozen4 HS9.out.c7 2
          have m2 := frozen4 (HS9.out.bx _ HL2.out) 2
          have n3 := frozen4 HS9.out.c7 3
          have m3 := frozen4 (HS9.out.bx _ HL2.out) 3
          have n4 := frozen4 HS9.out.c7 4
          have m4 := frozen4 (HS9.out.bx _ HL2.out) 4
          go_upto_region 11 with fail
          obtain ⟨w10, hw⟩ : ∃ x, x = w9.setCell ⟨q, 1, none⟩ (.slice sa (mrg lf mf).length sc) := ⟨_, rfl⟩
          have HG10 := Lib.hid (grown_set w9 q 1 (.slice sa (mrg lf mf).length sc))
          have HT10 := Lib.hid (put_1 (.slice sa (mrg lf mf).length sc) HS9.out.c7)
          have Hs' := Lib.hid (il_put (c := 1) (u := (.slice sa (mrg lf mf).length sc)) Hs.out HS9.out.c7)
          have HE10 := Lib.hid (il_put (c := 1) (u := (.slice sa (mrg lf mf).length sc)) (HE8.out.below HB9.out) HS9.out.c7)
          have HF10 := Lib.hid (il_put (c := 1) (u := (.slice sa (mrg lf mf).length sc)) (HF8.out.below HB9.out) HS9.out.c7)
          rw [← hw] at HG10 HT10 Hs' HE10 HF10 ⊢
          have HS10 := Lib.hid (HS9.out.put HG10.out HT10.out)
          clear hw
          clear z0 z1 z2 z3 z4 y0 y1 y2 y3 y4 p0 p1 p2 p3 p4 l0 l1 l2 l3 l4 m0 m1 m2 m3 m4 n0 n1 n2 n3 n4
          obtain ⟨z0, z1, z2, z3, z4⟩ := cell5 (HS10.out.bx _ HL0.out)
          obtain ⟨y0, y1, y2, y3, y4⟩ := cell5 (HS10.out.bx _ HL1.out)
          obtain ⟨l0, l1, l2, l3, l4⟩ := cell5 (HS10.out.bx _ HL2.out)
          obtain ⟨p0, p1, p2, p3, p4⟩ := cell5 HS10.out.c7
          have n0 := frozen4 HS10.out.c7 0
          have m0 := frozen4 (HS10.out.bx _ HL2.out) 0
          have n1 := frozen4 HS10.out.c7 1
          have m1 := frozen4 (HS10.out.bx _ HL2.out) 1
          have n2 := frozen4 HS10.out.c7 2
          have m2 := frozen4 (HS10.out.bx _ HL2.out) 2
          have n3 := frozen4 HS10.out.c7 3
          have m3 := frozen4 (HS10.out.bx _ HL2.out) 3
          have n4 := frozen4 HS10.out.c7 4
          have m4 := frozen4 (HS10.out.bx _ HL2.out) 4
          go_upto_region 14 with fail
          have HG13 := Lib.hid (grown_set w10 q 4 (.bool false))
          have HT13 := Lib.hid (put_4 (.bool false) HS10.out.c7)
          have HS13 := Lib.hid (HS10.out.put HG13.out HT13.out)
          have HFI := Lib.hid (il_put (c := 4) (u := .bool false) Hs'.out HS10.out.c7)
          have HLA := Lib.hid (il_put (c := 4) (u := .bool false) HE10.out HS10.out.c7)
          have hnu : (A.cat B).nu = false := by
            show (A.nu && B.nu) = _
            rw [← HNU.out.1, ← HNU.out.2]; rfl
          have HFN := Lib.hid (HS13.out.fin (P := A.cat B) (cs := (.slice none 0 0, .slice none 0 0, .slice none 0 0, .slice none 0 0, .bool false)) HL2.out (HX.out.ok.cat HY.out.ok) rfl (fun i _ => rfl) (fun i j _ => rfl) HFI.out ((HX.out.sfi.mrg HFP.out).congr fun i => by rw [cat_fi HX.out.ok, ← HNU.out.1]; simp) HLA.out (HSM.out.congr fun i => by rw [cat_la HX.out.ok, ← HNU.out.2]; simp))
          rw [hnu] at HFN
          obtain ⟨w13, hw⟩ : ∃ x, x = w10.setCell ⟨q, 4, none⟩ (.bool false) := ⟨_, rfl⟩
          rw [← hw] at HS13 HFN ⊢
          clear hw
          clear z0 z1 z2 z3 z4 y0 y1 y2 y3 y4 p0 p1 p2 p3 p4 l0 l1 l2 l3 l4 m0 m1 m2 m3 m4 n0 n1 n2 n3 n4
          obtain ⟨z0, z1, z2, z3, z4⟩ := cell5 (HS13.out.bx _ HL0.out)
          obtain ⟨y0, y1, y2, y3, y4⟩ := cell5 (HS13.out.bx _ HL1.out)
          obtain ⟨l0, l1, l2, l3, l4⟩ := cell5 (HS13.out.bx _ HL2.out)
          obtain ⟨p0, p1, p2, p3, p4⟩ := cell5 HS13.out.c7
          have n0 := frozen4 HS13.out.c7 0
          have m0 := frozen4 (HS13.out.bx _ HL2.out) 0
          have n1 := frozen4 HS13.out.c7 1
          have m1 := frozen4 (HS13.out.bx _ HL2.out) 1
          have n2 := frozen4 HS13.out.c7 2
          have m2 := frozen4 (HS13.out.bx _ HL2.out) 2
          have n3 := frozen4 HS13.out.c7 3
          have m3 := frozen4 (HS13.out.bx _ HL2.out) 3
          have n4 := frozen4 HS13.out.c7 4
          have m4 := frozen4 (HS13.out.bx _ HL2.out) 4
          go_wp2
          exact bodyPost_ret (ret5c Try.results46 rfl HFN.out.1) rfl HFN.out.2
        · go_wp2_with fail
          refine (add_any9 lf mf _ _ w8 (HX.out.ffi.below HS8.out.bel) HF8.out HX.out.sfi.1 (by have := HLEN.out; have := HMM.out; (try simp only [List.length_map]); omega)).mono ?_
          rintro e w9 ⟨v9, rfl, hil, hb⟩
          have Hs := Lib.hid hil
          have HS9 := Lib.hid (HS8.out.below hb)
          have HB9 := Lib.hid hb
          obtain ⟨sa, sc, rfl, _⟩ := hil
          clear hb
          clear z0 z1 z2 z3 z4 y0 y1 y2 y3 y4 p0 p1 p2 p3 p4 l0 l1 l2 l3 l4 m0 m1 m2 m3 m4 n0 n1 n2 n3 n4
          obtain ⟨z0, z1, z2, z3, z4⟩ := cell5 (HS9.out.bx _ HL0.out)
          obtain ⟨y0, y1, y2, y3, y4⟩ := cell5 (HS9.out.bx _ HL1.out)
          obtain ⟨l0, l1, l2, l3, l4⟩ := cell5 (HS9.out.bx _ HL2.out)
          obtain ⟨p0, p1, p2, p3, p4⟩ := cell5 HS9.out.c7
          have n0 := frozen4 HS9.out.c7 0
          have m0 := frozen4 (HS9.out.bx _ HL2.out) 0
          have n1 := frozen4 HS9.out.c7 1
          have m1 := frozen4 (HS9.out.bx _ HL2.out) 1
          have n2 := frozen4 HS9.out.c7 2
          have m2 := frozen4 (HS9.out.bx _ HL2.out) 2
          have n3 := frozen4 HS9.out.c7 3
          have m3 := frozen4 (HS9.out.bx _ HL2.out) 3
          have n4 := frozen4 HS9.out.c7 4
          have m4 := frozen4 (HS9.out.bx _ HL2.out) 4
          go_upto_region 11 with fail
          obtain ⟨w10, hw⟩ : ∃ x, x = w9.setCell ⟨q, 1, none⟩ (.slice sa (mrg lf mf).length sc) := ⟨_, rfl⟩
          have HG10 := Lib.hid (grown_set w9 q 1 (.slice sa (mrg lf mf).length sc))
          have HT10 := Lib.hid (put_1 (.slice sa (mrg lf mf).length sc) HS9.out.c7)
          have Hs' := Lib.hid (il_put (c := 1) (u := (.slice sa (mrg lf mf).length sc)) Hs.out HS9.out.c7)
          have HE10 := Lib.hid (il_put (c := 1) (u := (.slice sa (mrg lf mf).length sc)) (HE8.out.below HB9.out) HS9.out.c7)
          have HF10 := Lib.hid (il_put (c := 1) (u := (.slice sa (mrg lf mf).length sc)) (HF8.out.below HB9.out) HS9.out.c7)
          rw [← hw] at HG10 HT10 Hs' HE10 HF10 ⊢
          have HS10 := Lib.hid (HS9.out.put HG10.out HT10.out)
          clear hw
          clear z0 z1 z2 z3 z4 y0 y1 y2 y3 y4 p0 p1 p2 p3 p4 l0 l1 l2 l3 l4 m0 m1 m2 m3 m4 n0 n1 n2 n3 n4
          obtain ⟨z0, z1, z2, z3, z4⟩ := cell5 (HS10.out.bx _ HL0.out)
          obtain ⟨y0, y1, y2, y3, y4⟩ := cell5 (HS10.out.bx _ HL1.out)
          obtain ⟨l0, l1, l2, l3, l4⟩ := cell5 (HS10.out.bx _ HL2.out)
          obtain ⟨p0, p1, p2, p3, p4⟩ := cell5 HS10.out.c7
          have n0 := frozen4 HS10.out.c7 0
          have m0 := frozen4 (HS10.out.bx _ HL2.out) 0
          have n1 := frozen4 HS10.out.c7 1
          have m1 := frozen4 (HS10.out.bx _ HL2.out) 1
          have n2 := frozen4 HS10.out.c7 2
          have m2 := frozen4 (HS10.out.bx _ HL2.out) 2
          have n3 := frozen4 HS10.out.c7 3
          have m3 := frozen4 (HS10.out.bx _ HL2.out) 3
          have n4 := frozen4 HS10.out.c7 4
          have m4 := frozen4 (HS10.out.bx _ HL2.out) 4
          go_wp2_with fail
          refine (add_any9 ll (kl.map fun x => x + (A.n : Int)) _ _ w10 (HX.out.fla.below HS10.out.bel) HE10.out HX.out.sla.1 (by have := HLEN.out; have := HMM.out; (try simp only [List.length_map]); omega)).mono ?_
          rintro e w11 ⟨v11, rfl, hil, hb⟩
          have Ht := Lib.hid hil
          have HS11 := Lib.hid (HS10.out.below hb)
          have HB11 := Lib.hid hb
          obtain ⟨ta, tc, rfl, _⟩ := hil
          clear hb
          clear z0 z1 z2 z3 z4 y0 y1 y2 y3 y4 p0 p1 p2 p3 p4 l0 l1 l2 l3 l4 m0 m1 m2 m3 m4 n0 n1 n2 n3 n4
          obtain ⟨z0, z1, z2, z3, z4⟩ := cell5 (HS11.out.bx _ HL0.out)
          obtain ⟨y0, y1, y2, y3, y4⟩ := cell5 (HS11.out.bx _ HL1.out)
          obtain ⟨l0, l1, l2, l3, l4⟩ := cell5 (HS11.out.bx _ HL2.out)
          obtain ⟨p0, p1, p2, p3, p4⟩ := cell5 HS11.out.c7
          have n0 := frozen4 HS11.out.c7 0
          have m0 := frozen4 (HS11.out.bx _ HL2.out) 0
          have n1 := frozen4 HS11.out.c7 1
          have m1 := frozen4 (HS11.out.bx _ HL2.out) 1
          have n2 := frozen4 HS11.out.c7 2
          have m2 := frozen4 (HS11.out.bx _ HL2.out) 2
          have n3 := frozen4 HS11.out.c7 3
          have m3 := frozen4 (HS11.out.bx _ HL2.out) 3
          have n4 := frozen4 HS11.out.c7 4
          have m4 := frozen4 (HS11.out.bx _ HL2.out) 4
          go_upto_region 13 with fail
          obtain ⟨w12, hw⟩ : ∃ x, x = w11.setCell ⟨q, 2, none⟩ (.slice ta (mrg ll (kl.map fun x => x + (A.n : Int))).length tc) := ⟨_, rfl⟩
          have HG12 := Lib.hid (grown_set w11 q 2 (.slice ta (mrg ll (kl.map fun x => x + (A.n : Int))).length tc))
          have HT12 := Lib.hid (put_2 (.slice ta (mrg ll (kl.map fun x => x + (A.n : Int))).length tc) HS11.out.c7)
          have Ht' := Lib.hid (il_put (c := 2) (u := (.slice ta (mrg ll (kl.map fun x => x + (A.n : Int))).length tc)) Ht.out HS11.out.c7)
          have HE12 := Lib.hid (il_put (c := 2) (u := (.slice ta (mrg ll (kl.map fun x => x + (A.n : Int))).length tc)) (HE10.out.below HB11.out) HS11.out.c7)
          have HF12 := Lib.hid (il_put (c := 2) (u := (.slice ta (mrg ll (kl.map fun x => x + (A.n : Int))).length tc)) (HF10.out.below HB11.out) HS11.out.c7)
          have Hs12 := Lib.hid (il_put (c := 2) (u := (.slice ta (mrg ll (kl.map fun x => x + (A.n : Int))).length tc)) (Hs'.out.below HB11.out) HS11.out.c7)
          rw [← hw] at Hs12 HG12 HT12 Ht' HE12 HF12 ⊢
          have HS12 := Lib.hid (HS11.out.put HG12.out HT12.out)
          clear hw
          clear z0 z1 z2 z3 z4 y0 y1 y2 y3 y4 p0 p1 p2 p3 p4 l0 l1 l2 l3 l4 m0 m1 m2 m3 m4 n0 n1 n2 n3 n4
          obtain ⟨z0, z1, z2, z3, z4⟩ := cell5 (HS12.out.bx _ HL0.out)
          obtain ⟨y0, y1, y2, y3, y4⟩ := cell5 (HS12.out.bx _ HL1.out)
          obtain ⟨l0, l1, l2, l3, l4⟩ := cell5 (HS12.out.bx _ HL2.out)
          obtain ⟨p0, p1, p2, p3, p4⟩ := cell5 HS12.out.c7
          have n0 := frozen4 HS12.out.c7 0
          have m0 := frozen4 (HS12.out.bx _ HL2.out) 0
          have n1 := frozen4 HS12.out.c7 1
          have m1 := frozen4 (HS12.out.bx _ HL2.out) 1
          have n2 := frozen4 HS12.out.c7 2
          have m2 := frozen4 (HS12.out.bx _ HL2.out) 2
          have n3 := frozen4 HS12.out.c7 3
          have m3 := frozen4 (HS12.out.bx _ HL2.out) 3
          have n4 := frozen4 HS12.out.c7 4
          have m4 := frozen4 (HS12.out.bx _ HL2.out) 4
          go_upto_region 14 with fail
          have HG13 := Lib.hid (grown_set w12 q 4 (.bool true))
          have HT13 := Lib.hid (put_4 (.bool true) HS12.out.c7)
          have HS13 := Lib.hid (HS12.out.put HG13.out HT13.out)
          have HFI := Lib.hid (il_put (c := 4) (u := .bool true) Hs12.out HS12.out.c7)
          have HLA := Lib.hid (il_put (c := 4) (u := .bool true) Ht'.out HS12.out.c7)
          have hnu : (A.cat B).nu = true := by
            show (A.nu && B.nu) = _
            rw [← HNU.out.1, ← HNU.out.2]; rfl
          have HFN := Lib.hid (HS13.out.fin (P := A.cat B) (cs := (.slice none 0 0, .slice none 0 0, .slice none 0 0, .slice none 0 0, .bool false)) HL2.out (HX.out.ok.cat HY.out.ok) rfl (fun i _ => rfl) (fun i j _ => rfl) HFI.out ((HX.out.sfi.mrg HFP.out).congr fun i => by rw [cat_fi HX.out.ok, ← HNU.out.1]; simp) HLA.out ((HX.out.sla.mrg HSM.out).congr fun i => by rw [cat_la HX.out.ok, ← HNU.out.2]; simp))
          rw [hnu] at HFN
          obtain ⟨w13, hw⟩ : ∃ x, x = w12.setCell ⟨q, 4, none⟩ (.bool true) := ⟨_, rfl⟩
          rw [← hw] at HS13 HFN ⊢
          clear hw
          clear z0 z1 z2 z3 z4 y0 y1 y2 y3 y4 p0 p1 p2 p3 p4 l0 l1 l2 l3 l4 m0 m1 m2 m3 m4 n0 n1 n2 n3 n4
          obtain ⟨z0, z1, z2, z3, z4⟩ := cell5 (HS13.out.bx _ HL0.out)
          obtain ⟨y0, y1, y2, y3, y4⟩ := cell5 (HS13.out.bx _ HL1.out)
          obtain ⟨l0, l1, l2, l3, l4⟩ := cell5 (HS13.out.bx _ HL2.out)
          obtain ⟨p0, p1, p2, p3, p4⟩ := cell5 HS13.out.c7
          have n0 := frozen4 HS13.out.c7 0
          have m0 := frozen4 (HS13.out.bx _ HL2.out) 0
          have n1 := frozen4 HS13.out.c7 1
          have m1 := frozen4 (HS13.out.bx _ HL2.out) 1
          have n2 := frozen4 HS13.out.c7 2
          have m2 := frozen4 (HS13.out.bx _ HL2.out) 2
          have n3 := frozen4 HS13.out.c7 3
          have m3 := frozen4 (HS13.out.bx _ HL2.out) 3
          have n4 := frozen4 HS13.out.c7 4
          have m4 := frozen4 (HS13.out.bx _ HL2.out) 4
          go_wp2
          exact bodyPost_ret (ret5c Try.results46 rfl HFN.out.1) rfl HFN.out.2
end Go.Proofs.Ytbahadgcmaabcaa
