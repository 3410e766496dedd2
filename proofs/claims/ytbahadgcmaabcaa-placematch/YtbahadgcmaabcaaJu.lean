/- Contract of the document's again of layer 9. -/
import Derived.Test.YtbahadgcmaabcaaJq
import Derived.Test.YtbahadgcmaabcaaJr
import Derived.Test.YtbahadgcmaabcaaJs
namespace Go.Proofs.Ytbahadgcmaabcaa
open Go.RowKit Go
theorem heap2 (w : World) (a b : Obj) : ((w.alloc a).alloc b).heap[w.heap.size]? = some a ∧ ((w.alloc a).alloc b).heap[w.heap.size + 1]? = some b :=
  ⟨((alloc_below (w.alloc a) b).block _ (by simp)).trans (heap_alloc_new w a), by have := heap_alloc_new (w.alloc a) b; rwa [show (w.alloc a).heap.size = w.heap.size + 1 by simp] at this⟩
/-- Four cells that stand. -/
theorem four_stand {w w' : World} {a b d e i j k l : Nat} {x y z u : Value} (hb : Below w.heap.size w w') (ha : a < w.heap.size) (hb' : b < w.heap.size) (hd : d < w.heap.size) (he : e < w.heap.size) (h1 : w.cell? ⟨a, i, none⟩ = some x) (h2 : w.cell? ⟨b, j, none⟩ = some y) (h3 : w.cell? ⟨d, k, none⟩ = some z) (h4 : w.cell? ⟨e, l, none⟩ = some u) : w'.cell? ⟨a, i, none⟩ = some x ∧ w'.cell? ⟨b, j, none⟩ = some y ∧ w'.cell? ⟨d, k, none⟩ = some z ∧ w'.cell? ⟨e, l, none⟩ = some u :=
  ⟨(hb.cell (p := ⟨a, i, none⟩) ha).trans h1, (hb.cell (p := ⟨b, j, none⟩) hb').trans h2, (hb.cell (p := ⟨d, k, none⟩) hd).trans h3, (hb.cell (p := ⟨e, l, none⟩) he).trans h4⟩
/-- What both comes to where nothing is put behind. -/
theorem BothE.one {w : World} {A : Pl} {e : Ending} {w' : World} (h : BothE w A (Pl.nil false) e w') : ∃ (sv vo : Value) (us : Nat → Value) (F : Nat → List Int), e = .returned (plV sv (.slice none 0 0) (.slice none 0 0) vo false) ∧ w'.ownsRow w.heap.size 24 4 sv A.n (flatW A.set A.n) ∧ w'.ownsRow w.heap.size 37 1 vo A.n (rowV us A.n) ∧ (∀ i, i < A.n → IL w' (us i) (F i) ∧ IsL (F i) (A.fo i)) ∧ Below w.heap.size w w' := by
  obtain ⟨sv, vo, us, F, h1, h2, h3, h4, h5⟩ := h
  refine ⟨sv, vo, us, F, h1, ?_, h3, fun i hi => ⟨(h4 i hi).1, (h4 i hi).2.congr fun j => bfo_lo hi j⟩, h5⟩
  have e : flatW (bset A (Pl.nil false)) A.n = flatW A.set A.n := flatW_congr fun i hi => by unfold bset; rw [if_pos hi]
  rw [← e]; exact h2
set_option maxRecDepth 100000 in
set_option maxHeartbeats 8000000 in
theorem again_any9 (A : Pl) (va : Value) (w : World) (ha : PlV w va A) (hn : A.n ≤ 900) : Calls Try.prog 48 #[va] w (PlE w A.loop) := by
  obtain ⟨vs, vf, vl, vo, lf, ll, us, F, rfl, hX⟩ := ha
  have HX := Lib.hid hX
  obtain ⟨⟨a1, c1, rfl, _⟩, ⟨a2, c2, rfl, _⟩, _, ⟨a3, c3, rfl, _, hc3, _⟩, _, ⟨a4, c4, rfl, _⟩, _, _⟩ := hX
  obtain ⟨ba, hba⟩ : ∃ b, b = A.nu := ⟨_, rfl⟩
  have HVA : Hid (PlV w (plV (.slice a1 A.n c1) (.slice a2 lf.length c2) (.slice a3 ll.length c3) (.slice a4 A.n c4) ba) A) := Lib.hid (by rw [hba]; exact ⟨_, _, _, _, _, _, _, _, rfl, HX.out⟩)
  rw [← hba]
  have HNU := Lib.hid hba
  obtain ⟨w3, hw3⟩ : ∃ w3, w3 = (w.alloc (.cells (pl5 (.slice a1 A.n c1) (.slice a2 lf.length c2) (.slice a3 ll.length c3) (.slice a4 A.n c4) ba) 40)).alloc (.cells pl0 40) := ⟨_, rfl⟩
  have hb3 : Below w.heap.size w w3 := by rw [hw3]; exact alloc2_below _ _ _
  obtain ⟨b0, b1⟩ := heap2 w (.cells (pl5 (.slice a1 A.n c1) (.slice a2 lf.length c2) (.slice a3 ll.length c3) (.slice a4 A.n c4) ba) 40) (.cells pl0 40)
  rw [← hw3] at b0 b1
  have HB0 := Lib.hid b0
  have HB1 := Lib.hid b1
  have HBB := Lib.hid hb3
  have HBO := Lib.hid (both_any A (Pl.nil false) _ _ w3 (HVA.out.below hb3) (plV_nil w3 false) (by show A.n + 0 ≤ 900; omega))
  have hlA := HX.out.sla.len (n := A.n) HX.out.ok.la
  have hfA := HX.out.sfi.len (n := A.n) HX.out.ok.fi
  have HLEN := Lib.hid (show lf.length ≤ 900 ∧ ll.length ≤ 900 from ⟨by omega, by omega⟩)
  have HQ := Lib.hid (show w.heap.size < w3.heap.size ∧ w.heap.size + 1 < w3.heap.size ∧ w.heap.size ≤ w3.heap.size from ⟨lt_heap b0, lt_heap b1, hb3.size⟩)
  have HST : Hid (∀ (W4 : World) (sv vo : Value) (us' : Nat → Value) (F' : Nat → List Int), Below w3.heap.size w3 W4 → W4.ownsRow w3.heap.size 24 4 sv A.n (flatW A.set A.n) → W4.ownsRow w3.heap.size 37 1 vo A.n (rowV us' A.n) → (∀ i, i < A.n → IL W4 (us' i) (F' i) ∧ IsL (F' i) (A.fo i)) →
      BoS w A.n A.set A.fo [(w.heap.size, pl5 (.slice a1 A.n c1) (.slice a2 lf.length c2) (.slice a3 ll.length c3) (.slice a4 A.n c4) ba), (w.heap.size + 1, pl0)] W4.heap.size sv (.slice none 0 0) (.slice none 0 0) vo (.bool false) (W4.alloc (.cells (pl5 sv (.slice none 0 0) (.slice none 0 0) vo false) 40))) := Lib.hid fun W4 sv vo us' F' h hs hr hl => by
    have hba := alloc_below W4 (.cells (pl5 sv (.slice none 0 0) (.slice none 0 0) vo false) 40)
    have hsz := h.size
    refine ⟨us', F', ⟨fun x hx => ?_, heap_alloc_new _ _, by have := HQ.out; omega, (HBB.out.trans (h.mono HQ.out.2.2)).trans (hba.mono (by have := HQ.out; omega)), ownsRow_base (hs.alloc _) HQ.out.2.2, ownsRow_base (hr.alloc _) HQ.out.2.2, fun i hi => (hl i hi).1.below hba⟩, fun i hi => (hl i hi).2⟩
    simp only [List.mem_cons, List.not_mem_nil, or_false] at hx
    have hq := HQ.out
    rcases hx with rfl | rfl
    · exact ⟨(hba.block _ (by show w.heap.size < _; omega)).trans ((h.block _ HQ.out.1).trans HB0.out), by show w.heap.size ≠ _; omega, Nat.le_refl _⟩
    · exact ⟨(hba.block _ (by show w.heap.size + 1 < _; omega)).trans ((h.block _ HQ.out.2.1).trans HB1.out), by show w.heap.size + 1 ≠ _; omega, Nat.le_succ _⟩
  obtain ⟨x0, x1, x2, x3, x4⟩ := cell5 b0
  clear hb3 b0 b1 hba hlA hfA
  subst hw3
  go_enter Try.func48, Try.ntmps48
  go_wp2_with fail
  refine HBO.out.mono ?_
  rintro e w4 hE
  obtain ⟨sv, vo, us', F', rfl, hs, hr, hl, hb4⟩ := hE.one
  clear hE
  obtain ⟨w3, hw3⟩ : ∃ w3, w3 = (w.alloc (.cells (pl5 (.slice a1 A.n c1) (.slice a2 lf.length c2) (.slice a3 ll.length c3) (.slice a4 A.n c4) ba) 40)).alloc (.cells pl0 40) := ⟨_, rfl⟩
  rw [← hw3] at hs hr hb4 HST HQ HBB HB0 HB1
  have HBS := Lib.hid (HST.out w4 _ _ _ _ hb4 hs hr hl)
  obtain ⟨⟨sa, sc, rfl⟩, ov, oc, rfl⟩ := HBS.out.forms
  clear hs hr hl hb4 HST hw3 x0 x1 x2 x3 x4
  go_upto_region 2 with fail
  obtain ⟨w5, hw5⟩ : ∃ x, x = w4.alloc (.cells (pl5 (.slice sa A.n sc) (.slice none 0 0) (.slice none 0 0) (.slice ov A.n oc) false) 40) := ⟨_, rfl⟩
  obtain ⟨q, hq⟩ : ∃ q, q = w4.heap.size := ⟨_, rfl⟩
  obtain ⟨L, hL⟩ : ∃ L, L = [(w.heap.size, pl5 (.slice a1 A.n c1) (.slice a2 lf.length c2) (.slice a3 ll.length c3) (.slice a4 A.n c4) ba), (w.heap.size + 1, pl0)] := ⟨_, rfl⟩
  have HL0 : Hid ((w.heap.size, pl5 (.slice a1 A.n c1) (.slice a2 lf.length c2) (.slice a3 ll.length c3) (.slice a4 A.n c4) ba) ∈ L) := Lib.hid (by rw [hL]; simp)
  have HL1 : Hid ((w.heap.size + 1, pl0) ∈ L) := Lib.hid (by rw [hL]; simp)
  rw [← hw5, ← hq, ← hL] at HBS
  rw [← hw5, ← hq]
  clear hw5 hq hL
  have HF0 : Hid (∀ i, A.n ≤ i → A.fi i = false) := Lib.hid HX.out.ok.fi
  have HFO : Hid (∀ i t, A.n ≤ t → A.fo i t = false) := Lib.hid fun i t h => HX.out.ok.fo i t (Or.inr h)
  have HAT : Hid (∀ j, j < ll.length → ∃ x : Nat, ll.getD j 0 = (x : Int) ∧ x < A.n) := Lib.hid fun j hj => by
    have hm : ll.getD j 0 ∈ ll := by rw [List.getD_eq_getElem?_getD, List.getElem?_eq_getElem hj]; exact List.getElem_mem hj
    obtain ⟨x, e, _⟩ := (HX.out.sla.2 _).1 hm
    have := HX.out.sla.range (n := A.n) HX.out.ok.la _ hm
    exact ⟨x, e, by omega⟩
  have HS7 : Hid (BoS w A.n A.set (fun i t => A.fo i t || (inT ll 0 i && A.fi t)) L q (.slice sa A.n sc) (.slice none 0 0) (.slice none 0 0) (.slice ov A.n oc) (.bool false) w5) := Lib.hid (HBS.out.congr fun i t => by simp [inT_zero])
  have z3 := (cell5 (HBS.out.bx _ HL0.out)).2.2.1
  clear HBS
  go_upto_region 3 with fail
  go_wp2_with fail
  go_loopw [4] (fun c wr => ∃ j : Nat, j ≤ ll.length ∧ c = .int .i64 j ∧ Hid (BoS w A.n A.set (fun i t => A.fo i t || (inT ll j i && A.fi t)) L q (.slice sa A.n sc) (.slice none 0 0) (.slice none 0 0) (.slice ov A.n oc) (.bool false) wr)) (fun c _ => ll.length - (intOf c).toNat)
  case atStart => exact ⟨0, by omega, rfl, HS7⟩
  case round =>
    obtain ⟨j, hj, rfl, HI⟩ := hrel
    have hbel := HI.out.bel
    obtain ⟨z0, z1, z2, z3', z4⟩ := cell5 (HI.out.bx _ HL0.out)
    obtain ⟨p0, p1, p2, p3, p4⟩ := cell5 HI.out.c7
    by_cases hlt : j < ll.length
    · have hlt' : (j : Int) < (ll.length : Int) := by omega
      obtain ⟨x, hx, hxm⟩ := HAT.out j hlt
      obtain ⟨gf, c, vx, lx, hvo, hc1, hc2, hK⟩ := HI.out.round hlt hx hxm HF0.out HFO.out
      injection hvo with hv1 _ hv3
      subst hv1 hv3
      have HK := Lib.hid hK
      obtain ⟨gl, ol, cl, he, hgl, cj⟩ := il_cells2 HX.out.fla hbel hlt
      injection he with he1 _ he3
      rw [hx] at cj
      rw [he1] at z2
      have hxi : (x : Int) < (A.n : Int) := by omega
      have hel := hK.el
      have hfr := hK.fr
      have hil := hK.il
      obtain ⟨ax, cx, rfl, _⟩ := hil
      have hgw : gl < wr.heap.size := Nat.lt_of_lt_of_le hgl hbel.size
      have HKP : Hid (∀ W, Below wr.heap.size wr W → W.cell? ⟨q, 3, none⟩ = some (.slice (some ⟨gf, 0, none⟩) A.n oc) ∧ W.cell? ⟨w.heap.size, 2, none⟩ = some (.slice (some ⟨gl, ol, none⟩) ll.length c3) ∧ W.cell? ⟨gl, ol + j, none⟩ = some (.int .i64 (x : Int)) ∧ W.cell? ⟨w.heap.size, 1, none⟩ = some (.slice a2 lf.length c2)) := Lib.hid fun W h => four_stand h (lt_heap HI.out.c7) (lt_heap (HI.out.bx _ HL0.out)) hgw (lt_heap (HI.out.bx _ HL0.out)) p3 z2 cj z1
      have HKS : Hid (∀ W v, Below wr.heap.size wr W → (W.setCell ⟨gf, x, none⟩ v).cell? ⟨q, 3, none⟩ = some (.slice (some ⟨gf, 0, none⟩) A.n oc) ∧ (W.setCell ⟨gf, x, none⟩ v).cell? ⟨w.heap.size, 2, none⟩ = some (.slice (some ⟨gl, ol, none⟩) ll.length c3) ∧ (W.setCell ⟨gf, x, none⟩ v).cell? ⟨gl, ol + j, none⟩ = some (.int .i64 (x : Int)) ∧ (W.setCell ⟨gf, x, none⟩ v).cell? ⟨w.heap.size, 1, none⟩ = some (.slice a2 lf.length c2)) := Lib.hid fun W v h => by
        obtain ⟨k1, k2, k3, k4⟩ := HKP.out W h
        exact ⟨cell_set k1 HK.out.ne.1, cell_set k2 (HK.out.ne.2 _ HL0.out), cell_set k3 (by have := HK.out.lo; omega), cell_set k4 (HK.out.ne.2 _ HL0.out)⟩
      have HB0a : Below wr.heap.size wr wr.drew := (Below.refl _ _).drew
      have HLQ : Hid (lx.length + lf.length ≤ 5000) := Lib.hid (by have := HK.out.len; have := HLEN.out; omega)
      have H7 : Hid (IL wr (.slice a2 lf.length c2) lf) := Lib.hid (HX.out.ffi.below hbel)
      have HHE := Lib.hid (And.intro he1 he3)
      have HHX := Lib.hid hx
      clear z0 z3' z4 p0 p1 p2 p4 hc1 he1 he3 hx hK hbel z3
      go_wp2_with fail
      refine wp_region_held_drew (S := (fun w' => w'.cell? ⟨q, 3, none⟩ = some (.slice (some ⟨gf, 0, none⟩) A.n oc) ∧ w'.cell? ⟨w.heap.size, 2, none⟩ = some (.slice (some ⟨gl, ol, none⟩) ll.length c3) ∧ w'.cell? ⟨gl, ol + j, none⟩ = some (.int .i64 (x : Int)) ∧ w'.cell? ⟨w.heap.size, 1, none⟩ = some (.slice a2 lf.length c2))) (by kernel_rfl) ?_ (fun hHeld => ?_)
      · exact HKP.out _ HB0a
      refine wpAnyH_take (i := 0) (oi := { dst := some 15, op := Op.fieldAddr 40 (Operand.tmp 3) 3, type := 0, pos := "ref.go:88", after := #[], guard := none }) (v := ?_) rfl (by kernel_rfl) (by kernel_rfl) (by kernel_rfl) (fun _ _ _ h => h) (Or.inl ⟨by rfl, ?_⟩) (by assumption) ?_
      rotate_left
      · (intro w hSw; (try dsimp only at hSw); go_simp; try with_reducible rfl)
      try simp only [Act.put, List.setIfInBounds_toArray, List.set_cons_zero, List.set_cons_succ]
      refine wpAnyH_take (i := 1) (oi := { dst := some 16, op := Op.load 38 (Operand.tmp 15), type := 38, pos := "ref.go:88", after := #[{ on := 0, ground := Ground.data }], guard := none }) (v := ?_) rfl (by kernel_rfl) (by kernel_rfl) (by kernel_rfl) (fun _ _ _ h => h) (Or.inl ⟨by rfl, ?_⟩) (by assumption) ?_
      rotate_left
      · (intro w hSw; (try dsimp only at hSw); go_simp; try with_reducible rfl)
      try simp only [Act.put, List.setIfInBounds_toArray, List.set_cons_zero, List.set_cons_succ]
      refine wpAnyH_take (i := 2) (oi := { dst := some 17, op := Op.fieldAddr 40 (Operand.tmp 1) 2, type := 0, pos := "ref.go:88", after := #[], guard := none }) (v := ?_) rfl (by kernel_rfl) (by kernel_rfl) (by kernel_rfl) (fun _ _ _ h => h) (Or.inl ⟨by rfl, ?_⟩) (by assumption) ?_
      rotate_left
      · (intro w hSw; (try dsimp only at hSw); go_simp; try with_reducible rfl)
      try simp only [Act.put, List.setIfInBounds_toArray, List.set_cons_zero, List.set_cons_succ]
      refine wpAnyH_take (i := 3) (oi := { dst := some 18, op := Op.load 37 (Operand.tmp 17), type := 37, pos := "ref.go:88", after := #[{ on := 2, ground := Ground.data }], guard := none }) (v := ?_) rfl (by kernel_rfl) (by kernel_rfl) (by kernel_rfl) (fun _ _ _ h => h) (Or.inl ⟨by rfl, ?_⟩) (by assumption) ?_
      rotate_left
      · (intro w hSw; (try dsimp only at hSw); go_simp; try with_reducible rfl)
      try simp only [Act.put, List.setIfInBounds_toArray, List.set_cons_zero, List.set_cons_succ]
      refine wpAnyH_take (i := 4) (oi := { dst := some 19, op := Op.move (Operand.tmp 4), type := 3, pos := "ref.go:88", after := #[], guard := none }) (v := ?_) rfl (by kernel_rfl) (by kernel_rfl) (by kernel_rfl) (fun _ _ _ h => h) (Or.inl ⟨by rfl, ?_⟩) (by assumption) ?_
      rotate_left
      · (intro w hSw; (try dsimp only at hSw); go_simp; try with_reducible rfl)
      try simp only [Act.put, List.setIfInBounds_toArray, List.set_cons_zero, List.set_cons_succ]
      refine wpAnyH_take (i := 5) (oi := { dst := some 20, op := Op.indexAddr 37 (Operand.tmp 18) (Operand.tmp 19), type := 0, pos := "ref.go:88", after := #[{ on := 3, ground := Ground.data }, { on := 4, ground := Ground.data }], guard := none }) (v := ?_) rfl (by kernel_rfl) (by kernel_rfl) (by kernel_rfl) (fun _ _ _ h => h) (Or.inl ⟨by rfl, ?_⟩) (by assumption) ?_
      rotate_left
      · (intro w hSw; (try dsimp only at hSw); go_simp; try with_reducible rfl)
      try simp only [Act.put, List.setIfInBounds_toArray, List.set_cons_zero, List.set_cons_succ]
      refine wpAnyH_take (i := 6) (oi := { dst := some 21, op := Op.load 3 (Operand.tmp 20), type := 3, pos := "ref.go:88", after := #[{ on := 5, ground := Ground.data }], guard := none }) (v := ?_) rfl (by kernel_rfl) (by kernel_rfl) (by kernel_rfl) (fun _ _ _ h => h) (Or.inl ⟨by rfl, ?_⟩) (by assumption) ?_
      rotate_left
      · (intro w hSw; (try dsimp only at hSw); go_simp; try with_reducible rfl)
      try simp only [Act.put, List.setIfInBounds_toArray, List.set_cons_zero, List.set_cons_succ]
      refine wpAnyH_take (i := 7) (oi := { dst := some 22, op := Op.fieldAddr 40 (Operand.tmp 3) 3, type := 0, pos := "ref.go:88", after := #[], guard := none }) (v := ?_) rfl (by kernel_rfl) (by kernel_rfl) (by kernel_rfl) (fun _ _ _ h => h) (Or.inl ⟨by rfl, ?_⟩) (by assumption) ?_
      rotate_left
      · (intro w hSw; (try dsimp only at hSw); go_simp; try with_reducible rfl)
      try simp only [Act.put, List.setIfInBounds_toArray, List.set_cons_zero, List.set_cons_succ]
      refine wpAnyH_take (i := 8) (oi := { dst := some 23, op := Op.load 38 (Operand.tmp 22), type := 38, pos := "ref.go:88", after := #[{ on := 7, ground := Ground.data }], guard := none }) (v := ?_) rfl (by kernel_rfl) (by kernel_rfl) (by kernel_rfl) (fun _ _ _ h => h) (Or.inl ⟨by rfl, ?_⟩) (by assumption) ?_
      rotate_left
      · (intro w hSw; (try dsimp only at hSw); go_simp; try with_reducible rfl)
      try simp only [Act.put, List.setIfInBounds_toArray, List.set_cons_zero, List.set_cons_succ]
      refine wpAnyH_take (i := 9) (oi := { dst := some 24, op := Op.fieldAddr 40 (Operand.tmp 1) 2, type := 0, pos := "ref.go:88", after := #[], guard := none }) (v := ?_) rfl (by kernel_rfl) (by kernel_rfl) (by kernel_rfl) (fun _ _ _ h => h) (Or.inl ⟨by rfl, ?_⟩) (by assumption) ?_
      rotate_left
      · (intro w hSw; (try dsimp only at hSw); go_simp; try with_reducible rfl)
      try simp only [Act.put, List.setIfInBounds_toArray, List.set_cons_zero, List.set_cons_succ]
      refine wpAnyH_take (i := 10) (oi := { dst := some 25, op := Op.load 37 (Operand.tmp 24), type := 37, pos := "ref.go:88", after := #[{ on := 9, ground := Ground.data }], guard := none }) (v := ?_) rfl (by kernel_rfl) (by kernel_rfl) (by kernel_rfl) (fun _ _ _ h => h) (Or.inl ⟨by rfl, ?_⟩) (by assumption) ?_
      rotate_left
      · (intro w hSw; (try dsimp only at hSw); go_simp; try with_reducible rfl)
      try simp only [Act.put, List.setIfInBounds_toArray, List.set_cons_zero, List.set_cons_succ]
      refine wpAnyH_take (i := 11) (oi := { dst := some 26, op := Op.move (Operand.tmp 4), type := 3, pos := "ref.go:88", after := #[], guard := none }) (v := ?_) rfl (by kernel_rfl) (by kernel_rfl) (by kernel_rfl) (fun _ _ _ h => h) (Or.inl ⟨by rfl, ?_⟩) (by assumption) ?_
      rotate_left
      · (intro w hSw; (try dsimp only at hSw); go_simp; try with_reducible rfl)
      try simp only [Act.put, List.setIfInBounds_toArray, List.set_cons_zero, List.set_cons_succ]
      refine wpAnyH_take (i := 12) (oi := { dst := some 27, op := Op.indexAddr 37 (Operand.tmp 25) (Operand.tmp 26), type := 0, pos := "ref.go:88", after := #[{ on := 10, ground := Ground.data }, { on := 11, ground := Ground.data }], guard := none }) (v := ?_) rfl (by kernel_rfl) (by kernel_rfl) (by kernel_rfl) (fun _ _ _ h => h) (Or.inl ⟨by rfl, ?_⟩) (by assumption) ?_
      rotate_left
      · (intro w hSw; (try dsimp only at hSw); go_simp; try with_reducible rfl)
      try simp only [Act.put, List.setIfInBounds_toArray, List.set_cons_zero, List.set_cons_succ]
      refine wpAnyH_take (i := 13) (oi := { dst := some 28, op := Op.load 3 (Operand.tmp 27), type := 3, pos := "ref.go:88", after := #[{ on := 12, ground := Ground.data }], guard := none }) (v := ?_) rfl (by kernel_rfl) (by kernel_rfl) (by kernel_rfl) (fun _ _ _ h => h) (Or.inl ⟨by rfl, ?_⟩) (by assumption) ?_
      rotate_left
      · (intro w hSw; (try dsimp only at hSw); go_simp; try with_reducible rfl)
      try simp only [Act.put, List.setIfInBounds_toArray, List.set_cons_zero, List.set_cons_succ]
      refine wpAnyH_take (i := 14) (oi := { dst := some 29, op := Op.indexAddr 38 (Operand.tmp 23) (Operand.tmp 28), type := 0, pos := "ref.go:88", after := #[{ on := 8, ground := Ground.data }, { on := 13, ground := Ground.data }], guard := none }) (v := ?_) rfl (by kernel_rfl) (by kernel_rfl) (by kernel_rfl) (fun _ _ _ h => h) (Or.inl ⟨by rfl, ?_⟩) (by assumption) ?_
      rotate_left
      · (intro w hSw; (try dsimp only at hSw); go_simp; try with_reducible rfl)
      try simp only [Act.put, List.setIfInBounds_toArray, List.set_cons_zero, List.set_cons_succ]
      refine wpAnyH_take (i := 16) (oi := { dst := some 31, op := Op.fieldAddr 40 (Operand.tmp 1) 1, type := 0, pos := "ref.go:88", after := #[], guard := none }) (v := ?_) rfl (by kernel_rfl) (by kernel_rfl) (by kernel_rfl) (fun _ _ _ h => h) (Or.inl ⟨by rfl, ?_⟩) (by assumption) ?_
      rotate_left
      · (intro w hSw; (try dsimp only at hSw); go_simp; try with_reducible rfl)
      try simp only [Act.put, List.setIfInBounds_toArray, List.set_cons_zero, List.set_cons_succ]
      refine wpAnyH_take (i := 17) (oi := { dst := some 32, op := Op.load 37 (Operand.tmp 31), type := 37, pos := "ref.go:88", after := #[{ on := 16, ground := Ground.data }], guard := none }) (v := ?_) rfl (by kernel_rfl) (by kernel_rfl) (by kernel_rfl) (fun _ _ _ h => h) (Or.inl ⟨by rfl, ?_⟩) (by assumption) ?_
      rotate_left
      · (intro w hSw; (try dsimp only at hSw); go_simp; try with_reducible rfl)
      try simp only [Act.put, List.setIfInBounds_toArray, List.set_cons_zero, List.set_cons_succ]
      refine wpAnyH_ready (rs := [15]) (by kernel_rfl) (by simp) ?_
      refine AllReadyH.cons (o := { dst := some 30, op := Op.load 37 (Operand.tmp 29), type := 37, pos := "ref.go:88", after := #[{ on := 14, ground := Ground.data }], guard := none }) rfl (fun K hK => ?_) AllReadyH.nil
      go_simp
      refine hK.out _ _ ?_ (fun hHeld => ?_)
      · exact HKP.out _ HB0a
      clear hK K
      try simp only [Act.put, List.setIfInBounds_toArray, List.set_cons_zero, List.set_cons_succ]
      refine wpAnyH_ready (rs := [18]) (by kernel_rfl) (by simp) ?_
      refine AllReadyH.cons (o := { dst := some 33, op := Op.call { callee := Callee.value (Operand.func 17), args := #[Operand.tmp 30, Operand.tmp 32], argTypes := #[37, 37] }, type := 37, pos := "ref.go:88", after := #[{ on := 15, ground := Ground.data }, { on := 17, ground := Ground.data }], guard := none }) rfl (fun K hK => ?_) AllReadyH.nil
      go_simp
      refine (add_any9 lx lf _ _ wr.drew HK.out.il H7.out HK.out.up HLQ.out).mono ?_
      rintro e w6 ⟨v6, rfl, hil6, hb6⟩
      have HB6 : Below wr.heap.size wr w6 := undrew hb6
      have HIL6 := Lib.hid hil6
      obtain ⟨a6, c6, rfl, _⟩ := hil6
      have g6 := ((HB6.frozen (p := ⟨gf, x, none⟩) HK.out.lt)).trans hfr
      have el6 := ((HB6.cell (p := ⟨gf, x, none⟩) HK.out.lt)).trans hel
      go_wp2_with fail
      refine hK.out _ _ ?_ (fun hHeld => ?_)
      · exact HKP.out _ HB6
      clear hK K
      try simp only [Act.put, List.setIfInBounds_toArray, List.set_cons_zero, List.set_cons_succ]
      refine wpAnyH_take (i := 19) (oi := { dst := some 34, op := Op.indexAddr 38 (Operand.tmp 16) (Operand.tmp 21), type := 0, pos := "ref.go:88", after := #[{ on := 1, ground := Ground.data }, { on := 6, ground := Ground.data }, { on := 0, ground := Ground.phase }, { on := 1, ground := Ground.phase }, { on := 2, ground := Ground.phase }, { on := 3, ground := Ground.phase }, { on := 4, ground := Ground.phase }, { on := 5, ground := Ground.phase }, { on := 6, ground := Ground.phase }, { on := 7, ground := Ground.phase }, { on := 8, ground := Ground.phase }, { on := 9, ground := Ground.phase }, { on := 10, ground := Ground.phase }, { on := 11, ground := Ground.phase }, { on := 12, ground := Ground.phase }, { on := 13, ground := Ground.phase }, { on := 14, ground := Ground.phase }, { on := 15, ground := Ground.phase }, { on := 16, ground := Ground.phase }, { on := 17, ground := Ground.phase }, { on := 18, ground := Ground.phase }], guard := none }) (v := ?_) rfl (by kernel_rfl) (by kernel_rfl) (by kernel_rfl) (fun _ _ _ h => h) (Or.inl ⟨by rfl, ?_⟩) (by assumption) ?_
      rotate_left
      · (intro w hSw; (try dsimp only at hSw); go_simp; try with_reducible rfl)
      try simp only [Act.put, List.setIfInBounds_toArray, List.set_cons_zero, List.set_cons_succ]
      refine wpAnyH_ready (rs := [20]) (by kernel_rfl) (by simp) ?_
      refine AllReadyH.cons (o := { dst := none, op := Op.store 37 (Operand.tmp 34) (Operand.tmp 33), type := 0, pos := "ref.go:88", after := #[{ on := 19, ground := Ground.data }, { on := 18, ground := Ground.data }, { on := 18, ground := Ground.chain }, { on := 0, ground := Ground.phase }, { on := 1, ground := Ground.phase }, { on := 2, ground := Ground.phase }, { on := 3, ground := Ground.phase }, { on := 4, ground := Ground.phase }, { on := 5, ground := Ground.phase }, { on := 6, ground := Ground.phase }, { on := 7, ground := Ground.phase }, { on := 8, ground := Ground.phase }, { on := 9, ground := Ground.phase }, { on := 10, ground := Ground.phase }, { on := 11, ground := Ground.phase }, { on := 12, ground := Ground.phase }, { on := 13, ground := Ground.phase }, { on := 14, ground := Ground.phase }, { on := 15, ground := Ground.phase }, { on := 16, ground := Ground.phase }, { on := 17, ground := Ground.phase }, { on := 18, ground := Ground.phase }], guard := none }) rfl (fun K hK => ?_) AllReadyH.nil
      go_simp
      refine hK.out _ _ ?_ (fun hHeld => ?_)
      · exact HKS.out _ _ HB6
      clear hK K
      try simp only [Act.put, List.setIfInBounds_toArray, List.set_cons_zero, List.set_cons_succ]
      refine wpAnyH_done (by kernel_rfl) ?_ _
      have HN := Lib.hid (HK.out.next w6 _ lf HX.out.sfi HB6 HIL6.out)
      have hj1 : j + 1 ≤ ll.length := hlt
      have hj9 : (j : Int) < 1000 := by have := HLEN.out; omega
      go_wp2
      go_roundw
      case rel => exact ⟨j + 1, hj1, by go_num, HN⟩
      case measure => simp [intOf]; omega
    · obtain rfl : j = ll.length := by omega
      have HS0 : Hid (BoS w A.n A.set (A.loop.fo) L q (.slice sa A.n sc) (.slice none 0 0) (.slice none 0 0) (.slice ov A.n oc) (.bool false) wr) := Lib.hid (HI.out.congr fun i t => by rw [inT_all HX.out.sla]; rfl)
      clear z0 z1 z2 z3' z4 p0 p1 p2 p3 p4 z3 hlt hj hbel HI
      obtain ⟨z0, z1, z2, z3, z4⟩ := cell5 (HS0.out.bx _ HL0.out)
      obtain ⟨l0, l1, l2, l3, l4⟩ := cell5 (HS0.out.bx _ HL1.out)
      obtain ⟨p0, p1, p2, p3, p4⟩ := cell5 HS0.out.c7
      have n0 := frozen4 HS0.out.c7 0
      have m0 := frozen4 (HS0.out.bx _ HL1.out) 0
      have n1 := frozen4 HS0.out.c7 1
      have m1 := frozen4 (HS0.out.bx _ HL1.out) 1
      have n2 := frozen4 HS0.out.c7 2
      have m2 := frozen4 (HS0.out.bx _ HL1.out) 2
      have n3 := frozen4 HS0.out.c7 3
      have m3 := frozen4 (HS0.out.bx _ HL1.out) 3
      have n4 := frozen4 HS0.out.c7 4
      have m4 := frozen4 (HS0.out.bx _ HL1.out) 4
      have HR0 : Hid (wr.cell? ⟨w.heap.size, 1, none⟩ = some (.slice a2 lf.length c2) ∧ wr.cell? ⟨w.heap.size, 2, none⟩ = some (.slice a3 ll.length c3) ∧ wr.cell? ⟨w.heap.size, 4, none⟩ = some (.bool ba)) := Lib.hid ⟨z1, z2, z4⟩
      have HRD : Hid (∀ W : World, (W.cell? ⟨w.heap.size, 1, none⟩ = some (.slice a2 lf.length c2) ∧ W.cell? ⟨w.heap.size, 2, none⟩ = some (.slice a3 ll.length c3) ∧ W.cell? ⟨w.heap.size, 4, none⟩ = some (.bool ba)) → (W.drew.cell? ⟨w.heap.size, 1, none⟩ = some (.slice a2 lf.length c2) ∧ W.drew.cell? ⟨w.heap.size, 2, none⟩ = some (.slice a3 ll.length c3) ∧ W.drew.cell? ⟨w.heap.size, 4, none⟩ = some (.bool ba))) := Lib.hid fun W h => h
      have HRS : Hid (∀ (W : World) (c : Nat) (v : Value), (W.cell? ⟨w.heap.size, 1, none⟩ = some (.slice a2 lf.length c2) ∧ W.cell? ⟨w.heap.size, 2, none⟩ = some (.slice a3 ll.length c3) ∧ W.cell? ⟨w.heap.size, 4, none⟩ = some (.bool ba)) → ((W.setCell ⟨q, c, none⟩ v).cell? ⟨w.heap.size, 1, none⟩ = some (.slice a2 lf.length c2) ∧ (W.setCell ⟨q, c, none⟩ v).cell? ⟨w.heap.size, 2, none⟩ = some (.slice a3 ll.length c3) ∧ (W.setCell ⟨q, c, none⟩ v).cell? ⟨w.heap.size, 4, none⟩ = some (.bool ba))) := Lib.hid fun W c v h => ⟨cell_set h.1 (HS0.out.ne _ HL0.out), cell_set h.2.1 (HS0.out.ne _ HL0.out), cell_set h.2.2 (HS0.out.ne _ HL0.out)⟩
      go_wp2_with fail
      go_region_held3 (fun w' => w'.cell? ⟨w.heap.size, 1, none⟩ = some (.slice a2 lf.length c2) ∧ w'.cell? ⟨w.heap.size, 2, none⟩ = some (.slice a3 ll.length c3) ∧ w'.cell? ⟨w.heap.size, 4, none⟩ = some (.bool ba))
        ((repeat (first | exact HR0.out | refine HRD.out _ ?_ | refine HRS.out _ _ _ ?_)))
        (first | fail | fail)
      go_upto_region 7 with fail
      have HT8 := Lib.hid (put_4 (.bool ba) (put_2 (.slice a3 ll.length c3) (put_1 (.slice a2 lf.length c2) HS0.out.c7)))
      have HG8 := Lib.hid (grownBy_trans (grownBy_trans (grown_set wr q 1 (.slice a2 lf.length c2)) (grown_set _ q 2 (.slice a3 ll.length c3))) (grown_set _ q 4 (.bool ba)))
      have HS8 := Lib.hid ((HS0.out.put HG8.out HT8.out).below (Below.refl _ _).drew)
      obtain ⟨w8, hw8⟩ : ∃ x, x = (((wr.setCell ⟨q, 1, none⟩ (.slice a2 lf.length c2)).setCell ⟨q, 2, none⟩ (.slice a3 ll.length c3)).setCell ⟨q, 4, none⟩ (.bool ba)).drew := ⟨_, rfl⟩
      rw [← hw8] at HS8 ⊢
      clear hw8 HS0
      clear z0 z1 z2 z3 z4 l0 l1 l2 l3 l4 p0 p1 p2 p3 p4 m0 m1 m2 m3 m4 n0 n1 n2 n3 n4
      obtain ⟨z0, z1, z2, z3, z4⟩ := cell5 (HS8.out.bx _ HL0.out)
      obtain ⟨l0, l1, l2, l3, l4⟩ := cell5 (HS8.out.bx _ HL1.out)
      obtain ⟨p0, p1, p2, p3, p4⟩ := cell5 HS8.out.c7
      have n0 := frozen4 HS8.out.c7 0
      have m0 := frozen4 (HS8.out.bx _ HL1.out) 0
      have n1 := frozen4 HS8.out.c7 1
      have m1 := frozen4 (HS8.out.bx _ HL1.out) 1
      have n2 := frozen4 HS8.out.c7 2
      have m2 := frozen4 (HS8.out.bx _ HL1.out) 2
      have n3 := frozen4 HS8.out.c7 3
      have m3 := frozen4 (HS8.out.bx _ HL1.out) 3
      have n4 := frozen4 HS8.out.c7 4
      have m4 := frozen4 (HS8.out.bx _ HL1.out) 4
      have HFN := Lib.hid (HS8.out.fin (P := A.loop) (cs := ((.slice none 0 0), (.slice none 0 0), (.slice none 0 0), (.slice none 0 0), .bool false)) HL1.out HX.out.ok.loop rfl (fun i _ => rfl) (fun i j _ => rfl) (HX.out.ffi.below HS8.out.bel) HX.out.sfi (HX.out.fla.below HS8.out.bel) HX.out.sla)
      have hnu : A.loop.nu = ba := HNU.out.symm
      rw [hnu] at HFN
      go_wp2
      exact bodyPost_ret (ret5c Try.results48 rfl HFN.out.1) rfl HFN.out.2
end Go.Proofs.Ytbahadgcmaabcaa
/- Boxes of places; the document's of: what its walks need. -/
namespace Go.Proofs.Ytbahadgcmaabcaa
open Go.RowKit Go
theorem PlV.forms {w : World} {v : Value} {P : Pl} (h : PlV w v P) : ∃ a1 c1 a2 n2 c2 a3 n3 c3 a4 c4, v = plV (.slice a1 P.n c1) (.slice a2 n2 c2) (.slice a3 n3 c3) (.slice a4 P.n c4) P.nu := by
  obtain ⟨vs, vf, vl, vo, lf, ll, us, F, rfl, hX⟩ := h
  obtain ⟨⟨a1, c1, rfl, _⟩, ⟨a2, c2, rfl, _⟩, _, ⟨a3, c3, rfl, _⟩, _, ⟨a4, c4, rfl, _⟩, _, _⟩ := hX
  exact ⟨a1, c1, a2, _, c2, a3, _, c3, a4, c4, rfl⟩
/-- A box of places. -/
def PBx (W : World) (q : Nat) (P : Pl) : Prop := ∃ a1 c1 a2 n2 c2 a3 n3 c3 a4 c4, W.heap[q]? = some (.cells (pl5 (.slice a1 P.n c1) (.slice a2 n2 c2) (.slice a3 n3 c3) (.slice a4 P.n c4) P.nu) 40 (0, 0)) ∧ PlV W (plV (.slice a1 P.n c1) (.slice a2 n2 c2) (.slice a3 n3 c3) (.slice a4 P.n c4) P.nu) P
theorem PBx.below {W W' : World} {q : Nat} {P : Pl} (h : PBx W q P) (hb : Below W.heap.size W W') : PBx W' q P := by
  obtain ⟨a1, c1, a2, n2, c2, a3, n3, c3, a4, c4, hq, hP⟩ := h
  exact ⟨a1, c1, a2, n2, c2, a3, n3, c3, a4, c4, (hb.block _ (lt_heap hq)).trans hq, hP.below hb⟩
theorem PBx.new {W : World} {P : Pl} {a1 c1 a2 n2 c2 a3 n3 c3 a4 c4} (h : PlV W (plV (.slice a1 P.n c1) (.slice a2 n2 c2) (.slice a3 n3 c3) (.slice a4 P.n c4) P.nu) P) : PBx (W.alloc (.cells (pl5 (.slice a1 P.n c1) (.slice a2 n2 c2) (.slice a3 n3 c3) (.slice a4 P.n c4) P.nu) 40)) W.heap.size P :=
  ⟨_, _, _, _, _, _, _, _, _, _, heap_alloc_new _ _, h.below (alloc_below _ _)⟩
theorem PBx.off {W : World} {p q : Nat} {P : Pl} {cs : Array Value} (h : PBx W q P) (hp : W.heap[p]? = some (.cells cs 40 (0, 0))) (hne : q ≠ p) (x1 x2 x3 x4 x5 : Value) : PBx (put5 W p x1 x2 x3 x4 x5) q P := by
  obtain ⟨a1, c1, a2, n2, c2, a3, n3, c3, a4, c4, hq, hP⟩ := h
  have hg := put5_grown W p x1 x2 x3 x4 x5
  exact ⟨a1, c1, a2, n2, c2, a3, n3, c3, a4, c4, (hg.block q (lt_heap hq) fun e => hne (Option.some.inj e)).trans hq, hP.other hg hp⟩
theorem PBx.set {W : World} {p : Nat} {P : Pl} {b1 b2 b3 b4 b5 : Value} {a1 c1 a2 n2 c2 a3 n3 c3 a4 c4} (hp : W.heap[p]? = some (.cells #[b1, b2, b3, b4, b5] 40 (0, 0))) (h : PlV W (plV (.slice a1 P.n c1) (.slice a2 n2 c2) (.slice a3 n3 c3) (.slice a4 P.n c4) P.nu) P) : PBx (put5 W p (.slice a1 P.n c1) (.slice a2 n2 c2) (.slice a3 n3 c3) (.slice a4 P.n c4) (.bool P.nu)) p P :=
  ⟨_, _, _, _, _, _, _, _, _, _, stored5 _ _ _ _ _ hp, h.other (put5_grown _ _ _ _ _ _ _) hp⟩
/-- While the document's of runs: the pattern's box, the answer's. -/
structure OfS (w : World) (X : Array Value) (W : World) : Prop where
  bx : W.heap[w.heap.size]? = some (.cells X 27 (0, 0))
  br : W.heap[w.heap.size + 1]? = some (.cells pl0 40 (0, 0))
  bel : Below w.heap.size w W
theorem OfS.below {w : World} {X : Array Value} {W W' : World} (h : OfS w X W) (hb : Below W.heap.size W W') : OfS w X W' :=
  ⟨(hb.block _ (lt_heap h.bx)).trans h.bx, (hb.block _ (lt_heap h.br)).trans h.br, h.bel.trans (hb.mono h.bel.size)⟩
theorem OfS.put {w : World} {X : Array Value} {W : World} (h : OfS w X W) {q : Nat} (hq : w.heap.size + 2 ≤ q) (x1 x2 x3 x4 x5 : Value) : OfS w X (put5 W q x1 x2 x3 x4 x5) := by
  have hg := put5_grown W q x1 x2 x3 x4 x5
  exact ⟨(hg.block _ (lt_heap h.bx) fun e => by have := Option.some.inj e; omega).trans h.bx, (hg.block _ (lt_heap h.br) fun e => by have := Option.some.inj e; omega).trans h.br, put5_below h.bel (by omega) _ _ _ _ _⟩
theorem OfS.start (w : World) (X : Array Value) : OfS w X ((w.alloc (.cells X 27)).alloc (.cells pl0 40)) :=
  ⟨(heap2 _ _ _).1, (heap2 _ _ _).2, alloc2_below _ _ _⟩
/-- The answer is written. -/
theorem OfS.fin {w : World} {X : Array Value} {W : World} (h : OfS w X W) {P : Pl} {a1 c1 a2 n2 c2 a3 n3 c3 a4 c4} (hP : PlV W (plV (.slice a1 P.n c1) (.slice a2 n2 c2) (.slice a3 n3 c3) (.slice a4 P.n c4) P.nu) P) :
    (put5 W (w.heap.size + 1) (.slice a1 P.n c1) (.slice a2 n2 c2) (.slice a3 n3 c3) (.slice a4 P.n c4) (.bool P.nu)).heap[w.heap.size + 1]? = some (.cells #[.slice a1 P.n c1, .slice a2 n2 c2, .slice a3 n3 c3, .slice a4 P.n c4, .bool P.nu] 40 (0, 0)) ∧
      PlE w P (.returned (plV (.slice a1 P.n c1) (.slice a2 n2 c2) (.slice a3 n3 c3) (.slice a4 P.n c4) P.nu)) (put5 W (w.heap.size + 1) (.slice a1 P.n c1) (.slice a2 n2 c2) (.slice a3 n3 c3) (.slice a4 P.n c4) (.bool P.nu)) :=
  ⟨stored5 _ _ _ _ _ h.br, _, rfl, hP.other (put5_grown _ _ _ _ _ _ _) h.br, put5_below h.bel (by omega) _ _ _ _ _⟩
theorem PlE.drew {w : World} {P : Pl} {e : Ending} {w' : World} (h : PlE w P e w') : PlE w P e w'.drew := by
  obtain ⟨v, h1, h2, h3⟩ := h
  exact ⟨v, h1, h2.below (Below.refl _ _).drew, h3.drew⟩
theorem Pl.orN_false (P : Pl) : P.orN false = P := Pl.ext' rfl (fun _ => rfl) (fun _ => rfl) (fun _ => rfl) (fun _ _ => rfl) (Bool.or_false _)
theorem rep_le {x : Pl} {lo hi : Int} (h : countsB lo hi = true) (hn : (x.rep lo hi).n ≤ 900) (m : Nat) (hm : m ≤ repM lo hi) : m * x.n ≤ 900 := by
  rw [rep_n h] at hn
  exact Nat.le_trans (Nat.mul_le_mul_right _ hm) hn
theorem pre_n (x y : Pl) : ∀ n, (x.pre y n).n = n * x.n + y.n
  | 0 => by simp [Pl.pre]
  | n + 1 => by show x.n + (x.pre y n).n = _; rw [pre_n x y n, Nat.succ_mul]; omega
theorem catTo_le {f : Nat → Pl} : ∀ {i n : Nat}, i ≤ n → (Pl.catTo f i).n ≤ (Pl.catTo f n).n := fun {i n} h => by
  rw [catTo_n, catTo_n]; exact sumTo_mono _ h
theorem altTo_le {f : Nat → Pl} : ∀ {i n : Nat}, i ≤ n → (Pl.altTo f i).n ≤ (Pl.altTo f n).n := fun {i n} h => by
  rw [altTo_n, altTo_n]; exact sumTo_mono _ h
end Go.Proofs.Ytbahadgcmaabcaa
