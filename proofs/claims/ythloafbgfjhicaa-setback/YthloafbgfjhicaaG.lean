/- Contracts of the document's own answers of layer 1: Of, Or, And, Not. -/
import Derived.Test.YthloafbgfjhicaaD
namespace Go.Proofs.Ythloafbgfjhicaa
open Go.RowKit
/-- The set of the bytes below j for which K says yes, byte by byte. -/
def accS (K : Int → Bool) : Nat → Nat → Int
  | 0 => fun _ => 0
  | j + 1 => if K (j : Int) then addS (accS K j) (j : Int) else accS K j
theorem accS_yes {K : Int → Bool} {j : Nat} (h : K (j : Int) = true) : accS K (j + 1) = addS (accS K j) (j : Int) := by
  show (if _ then _ else _) = _; rw [h]; rfl
theorem accS_no {K : Int → Bool} {j : Nat} (h : K (j : Int) = false) : accS K (j + 1) = accS K j := by
  show (if _ then _ else _) = _; rw [h]; rfl
def accAll (K : Int → Bool) : Nat → Int := accS K 256
/-- The world behind a set's being stored in block g. -/
abbrev put4 (w : World) (g : Nat) (f : Nat → Int) : World := (((w.setCell ⟨g, 0, none⟩ (.int .u64 (f 0))).setCell ⟨g, 1, none⟩ (.int .u64 (f 1))).setCell ⟨g, 2, none⟩ (.int .u64 (f 2))).setCell ⟨g, 3, none⟩ (.int .u64 (f 3))
theorem put4_other (w : World) (g k : Nat) (f : Nat → Int) (h : k ≠ g) : (put4 w g f).heap[k]? = w.heap[k]? := by
  rw [heap_setCell_other _ _ _ _ h, heap_setCell_other _ _ _ _ h, heap_setCell_other _ _ _ _ h, heap_setCell_other _ _ _ _ h]
theorem put4_below {w0 w : World} {B g : Nat} (f : Nat → Int) (h : Below B w0 w) (hg : B ≤ g) : Below B w0 (put4 w g f) :=
  (((h.setCell hg _).setCell hg _).setCell hg _).setCell hg _
theorem put4_size (w : World) (g : Nat) (f : Nat → Int) : (put4 w g f).heap.size = w.heap.size := by simp
set_option maxRecDepth 100000 in
set_option maxHeartbeats 1000000 in
theorem refof_any (x y : Int) (w : World) :
    Calls Try.prog 12 #[.int .i64 x, .int .i64 y] w fun e w' => e = .returned (SV (accAll (ofK x y))) ∧ Below w.heap.size w w' := by
  go_enter Try.func12, Try.ntmps12
  go_wp2
  go_loopw [6] (fun c wr => ∃ j : Nat, j ≤ 256 ∧ c = .int .i64 j ∧ wr.heap[w.heap.size]? = some (.cells (row4 fun _ => 0) 24 (0, 0)) ∧ wr.heap[w.heap.size + 1]? = some (.cells (row4 (accS (ofK x y) j)) 24 (0, 0)) ∧ w.heap.size + 2 ≤ wr.heap.size ∧ Below w.heap.size w wr) (fun c _ => 256 - (intOf c).toNat)
  case atStart => exact ⟨0, by omega, rfl, heap_alloc2_old _ _ _, heap_alloc2_new _ _ _, by simp, ((Below.refl _ _).alloc (Nat.le_refl _) _).alloc (by simp) _⟩
  case round =>
    obtain ⟨j, hj, rfl, hr, hs, hl, hb⟩ := hrel
    by_cases hlt : j < 256
    · have HR := Lib.hid hr
      have HS := Lib.hid hs
      by_cases hxj : x ≤ (j : Int)
      · by_cases hyj : (j : Int) ≤ y
        · have HK := Lib.hid (accS_yes (K := ofK x y) (j := j) (by simp [ofK, hxj, hyj]))
          have c0 := cell4 hs 0 (by omega)
          have c1 := cell4 hs 1 (by omega)
          have c2 := cell4 hs 2 (by omega)
          have c3 := cell4 hs 3 (by omega)
          clear hr hs
          go_wp2_with fail
          refine (add_any (accS (ofK x y) j) (j : Int) (by omega) (by omega) _).mono ?_
          rintro e w1 ⟨rfl, hb1⟩
          have hs1 := (hb1.block (w.heap.size + 1) (by omega)).trans HS.out
          have HR1 := Lib.hid ((hb1.block w.heap.size (by omega)).trans HR.out)
          have hB1 : Below w.heap.size w w1 := hb.trans (hb1.mono hb.size)
          have hl1 : w.heap.size + 2 ≤ w1.heap.size := Nat.le_trans hl hb1.size
          clear c0 c1 c2 c3 hb hl hb1 HR HS
          have d0 := cell4 hs1 0 (by omega)
          have d1 := cell4 hs1 1 (by omega)
          have d2 := cell4 hs1 2 (by omega)
          have d3 := cell4 hs1 3 (by omega)
          have f0 := frozen_of_row _ _ 0 _ _ hs1
          have f1 := frozen_of_row _ _ 1 _ _ hs1
          have f2 := frozen_of_row _ _ 2 _ _ hs1
          have f3 := frozen_of_row _ _ 3 _ _ hs1
          have HS1 := Lib.hid hs1
          clear hs1
          go_wp2
          go_roundw
          case rel => exact ⟨j + 1, by omega, by go_num, (put4_other w1 _ _ _ (by omega)).trans HR1.out, by rw [HK.out]; exact stored4 _ HS1.out, by rw [put4_size]; exact hl1, put4_below _ hB1 (by omega)⟩
          case measure => simp [intOf]; omega
        · have HK := Lib.hid (accS_no (K := ofK x y) (j := j) (by simp [ofK]; omega))
          clear hr hs
          go_wp2
          go_roundw
          case rel => exact ⟨j + 1, by omega, by go_num, HR.out, by rw [HK.out]; exact HS.out, hl, hb⟩
          case measure => simp [intOf]; omega
      · have HK := Lib.hid (accS_no (K := ofK x y) (j := j) (by simp [ofK]; omega))
        clear hr hs
        go_wp2
        go_roundw
        case rel => exact ⟨j + 1, by omega, by go_num, HR.out, by rw [HK.out]; exact HS.out, hl, hb⟩
        case measure => simp [intOf]; omega
    · obtain rfl : j = 256 := by omega
      have c0 := cell4 hs 0 (by omega)
      have c1 := cell4 hs 1 (by omega)
      have c2 := cell4 hs 2 (by omega)
      have c3 := cell4 hs 3 (by omega)
      have d0 := cell4 hr 0 (by omega)
      have d1 := cell4 hr 1 (by omega)
      have d2 := cell4 hr 2 (by omega)
      have d3 := cell4 hr 3 (by omega)
      have f0 := frozen_of_row _ _ 0 _ _ hr
      have f1 := frozen_of_row _ _ 1 _ _ hr
      have f2 := frozen_of_row _ _ 2 _ _ hr
      have f3 := frozen_of_row _ _ 3 _ _ hr
      have HR := Lib.hid (stored4 (accS (ofK x y) 256) hr)
      clear hr hs
      go_wp2
      refine bodyPost_ret (v := SV (accAll (ofK x y))) (ret4 Try.results12 rfl HR.out) rfl ⟨rfl, ?_⟩
      exact put4_below (accS (ofK x y) 256) hb (Nat.le_refl _)
theorem heap_alloc4_a (w : World) (A B C D : Obj) : ((((w.alloc A).alloc B).alloc C).alloc D).heap[w.heap.size]? = some A := by
  rw [Below.heap_alloc _ _ _ (by simp; omega)]; exact heap_alloc3_a _ _ _ _
theorem heap_alloc4_b (w : World) (A B C D : Obj) : ((((w.alloc A).alloc B).alloc C).alloc D).heap[w.heap.size + 1]? = some B := by
  rw [Below.heap_alloc _ _ _ (by simp)]; exact heap_alloc3_b _ _ _ _
theorem heap_alloc4_c (w : World) (A B C D : Obj) : ((((w.alloc A).alloc B).alloc C).alloc D).heap[w.heap.size + 2]? = some C := by
  rw [Below.heap_alloc _ _ _ (by simp)]; exact heap_alloc3_c _ _ _ _
theorem heap_alloc4_d (w : World) (A B C D : Obj) : ((((w.alloc A).alloc B).alloc C).alloc D).heap[w.heap.size + 3]? = some D := by
  have := heap_alloc_new (((w.alloc A).alloc B).alloc C) D
  simpa using this
theorem below_alloc3 (w : World) (A B C : Obj) : Below w.heap.size w (((w.alloc A).alloc B).alloc C) :=
  (((Below.refl _ _).alloc (Nat.le_refl _) _).alloc (by simp) _).alloc (by simp; omega) _
theorem below_alloc4 (w : World) (A B C D : Obj) : Below w.heap.size w ((((w.alloc A).alloc B).alloc C).alloc D) :=
  (below_alloc3 w A B C).alloc (by simp; omega) _
set_option maxRecDepth 100000 in
set_option maxHeartbeats 4000000 in
theorem refnot_any (f : Nat → Int) (w : World) :
    Calls Try.prog 18 #[SV f] w fun e w' => e = .returned (SV (accAll (fun b => !hasI f b))) ∧ Below w.heap.size w w' := by
  go_enter Try.func18, Try.ntmps18
  go_wp2
  go_loopw [4] (fun c wr => ∃ j : Nat, j ≤ 256 ∧ c = .int .i64 j ∧ wr.heap[w.heap.size]? = some (.cells (row4 f) 24 (0, 0)) ∧ wr.heap[w.heap.size + 1]? = some (.cells (row4 fun _ => 0) 24 (0, 0)) ∧ wr.heap[w.heap.size + 2]? = some (.cells (row4 (accS (fun b => !hasI f b) j)) 24 (0, 0)) ∧ w.heap.size + 3 ≤ wr.heap.size ∧ Below w.heap.size w wr) (fun c _ => 256 - (intOf c).toNat)
  case atStart => exact ⟨0, by omega, rfl, heap_alloc3_a _ _ _ _, heap_alloc3_b _ _ _ _, heap_alloc3_c _ _ _ _, by simp, below_alloc3 _ _ _ _⟩
  case round =>
    obtain ⟨j, hj, rfl, h0, h1, h2, hl, hb⟩ := hrel
    by_cases hlt : j < 256
    · have H0 := Lib.hid h0
      have H1 := Lib.hid h1
      have H2 := Lib.hid h2
      clear h0 h1 h2
      cases hx : hasI f (j : Int)
      · skip
        have HK := Lib.hid (accS_yes (K := fun b => !hasI f b) (j := j) (by simp [hx]))
        have c0 := cell4 H0.out 0 (by omega)
        have c1 := cell4 H0.out 1 (by omega)
        have c2 := cell4 H0.out 2 (by omega)
        have c3 := cell4 H0.out 3 (by omega)
        go_wp2_with fail
        refine (refhas_any f (j : Int) _).mono ?_
        rintro e w1 ⟨rfl, hc1⟩
        clear c0 c1 c2 c3
        have H0q1 := Lib.hid ((hc1.block (w.heap.size) (by omega)).trans H0.out)
        have H1q1 := Lib.hid ((hc1.block (w.heap.size + 1) (by omega)).trans H1.out)
        have H2q1 := Lib.hid ((hc1.block (w.heap.size + 2) (by omega)).trans H2.out)
        have hbq1 : Below w.heap.size w w1 := hb.trans (hc1.mono hb.size)
        have hlq1 : w.heap.size + 3 ≤ w1.heap.size := Nat.le_trans hl hc1.size
        clear H0 H1 H2 hb hl hc1
        have c0 := cell4 H2q1.out 0 (by omega)
        have c1 := cell4 H2q1.out 1 (by omega)
        have c2 := cell4 H2q1.out 2 (by omega)
        have c3 := cell4 H2q1.out 3 (by omega)
        go_wp2_with fail
        refine (add_any (accS (fun b => !hasI f b) j) (j : Int) (by omega) (by omega) _).mono ?_
        rintro e w2 ⟨rfl, hc2⟩
        clear c0 c1 c2 c3
        have H0q2 := Lib.hid ((hc2.block (w.heap.size) (by omega)).trans H0q1.out)
        have H1q2 := Lib.hid ((hc2.block (w.heap.size + 1) (by omega)).trans H1q1.out)
        have H2q2 := Lib.hid ((hc2.block (w.heap.size + 2) (by omega)).trans H2q1.out)
        have hbq2 : Below w.heap.size w w2 := hbq1.trans (hc2.mono hbq1.size)
        have hlq2 : w.heap.size + 3 ≤ w2.heap.size := Nat.le_trans hlq1 hc2.size
        clear H0q1 H1q1 H2q1 hbq1 hlq1 hc2
        have c0 := cell4 H2q2.out 0 (by omega)
        have c1 := cell4 H2q2.out 1 (by omega)
        have c2 := cell4 H2q2.out 2 (by omega)
        have c3 := cell4 H2q2.out 3 (by omega)
        have f0 := frozen_of_row _ _ 0 _ _ H2q2.out
        have f1 := frozen_of_row _ _ 1 _ _ H2q2.out
        have f2 := frozen_of_row _ _ 2 _ _ H2q2.out
        have f3 := frozen_of_row _ _ 3 _ _ H2q2.out
        go_wp2
        go_roundw
        case rel => exact ⟨j + 1, by omega, by go_num, (put4_other w2 _ _ _ (by omega)).trans H0q2.out, (put4_other w2 _ _ _ (by omega)).trans H1q2.out, by rw [HK.out]; exact stored4 _ H2q2.out, by rw [put4_size]; exact hlq2, put4_below _ hbq2 (by omega)⟩
        case measure => simp [intOf]; omega
      · skip
        have HK := Lib.hid (accS_no (K := fun b => !hasI f b) (j := j) (by simp [hx]))
        have c0 := cell4 H0.out 0 (by omega)
        have c1 := cell4 H0.out 1 (by omega)
        have c2 := cell4 H0.out 2 (by omega)
        have c3 := cell4 H0.out 3 (by omega)
        go_wp2_with fail
        refine (refhas_any f (j : Int) _).mono ?_
        rintro e w1 ⟨rfl, hc1⟩
        clear c0 c1 c2 c3
        have H0q1 := Lib.hid ((hc1.block (w.heap.size) (by omega)).trans H0.out)
        have H1q1 := Lib.hid ((hc1.block (w.heap.size + 1) (by omega)).trans H1.out)
        have H2q1 := Lib.hid ((hc1.block (w.heap.size + 2) (by omega)).trans H2.out)
        have hbq1 : Below w.heap.size w w1 := hb.trans (hc1.mono hb.size)
        have hlq1 : w.heap.size + 3 ≤ w1.heap.size := Nat.le_trans hl hc1.size
        clear H0 H1 H2 hb hl hc1
        go_wp2
        go_roundw
        case rel => exact ⟨j + 1, by omega, by go_num, H0q1.out, H1q1.out, by rw [HK.out]; exact H2q1.out, hlq1, hbq1⟩
        case measure => simp [intOf]; omega
    · obtain rfl : j = 256 := by omega
      have c0 := cell4 h2 0 (by omega)
      have c1 := cell4 h2 1 (by omega)
      have c2 := cell4 h2 2 (by omega)
      have c3 := cell4 h2 3 (by omega)
      have d0 := cell4 h1 0 (by omega)
      have d1 := cell4 h1 1 (by omega)
      have d2 := cell4 h1 2 (by omega)
      have d3 := cell4 h1 3 (by omega)
      have f0 := frozen_of_row _ _ 0 _ _ h1
      have f1 := frozen_of_row _ _ 1 _ _ h1
      have f2 := frozen_of_row _ _ 2 _ _ h1
      have f3 := frozen_of_row _ _ 3 _ _ h1
      have HR := Lib.hid (stored4 (accS (fun b => !hasI f b) 256) h1)
      clear h0 h1 h2
      go_wp2
      refine bodyPost_ret (v := SV (accAll (fun b => !hasI f b))) (ret4 Try.results18 rfl HR.out) rfl ⟨rfl, ?_⟩
      exact put4_below (accS (fun b => !hasI f b) 256) hb (by omega)
set_option maxRecDepth 100000 in
set_option maxHeartbeats 4000000 in
theorem refor_any (f : Nat → Int) (g : Nat → Int) (w : World) :
    Calls Try.prog 14 #[SV f, SV g] w fun e w' => e = .returned (SV (accAll (fun b => hasI f b || hasI g b))) ∧ Below w.heap.size w w' := by
  go_enter Try.func14, Try.ntmps14
  go_wp2
  go_loopw [6] (fun c wr => ∃ j : Nat, j ≤ 256 ∧ c = .int .i64 j ∧ wr.heap[w.heap.size]? = some (.cells (row4 f) 24 (0, 0)) ∧ wr.heap[w.heap.size + 1]? = some (.cells (row4 g) 24 (0, 0)) ∧ wr.heap[w.heap.size + 2]? = some (.cells (row4 fun _ => 0) 24 (0, 0)) ∧ wr.heap[w.heap.size + 3]? = some (.cells (row4 (accS (fun b => hasI f b || hasI g b) j)) 24 (0, 0)) ∧ w.heap.size + 4 ≤ wr.heap.size ∧ Below w.heap.size w wr) (fun c _ => 256 - (intOf c).toNat)
  case atStart => exact ⟨0, by omega, rfl, heap_alloc4_a _ _ _ _ _, heap_alloc4_b _ _ _ _ _, heap_alloc4_c _ _ _ _ _, heap_alloc4_d _ _ _ _ _, by simp, below_alloc4 _ _ _ _ _⟩
  case round =>
    obtain ⟨j, hj, rfl, h0, h1, h2, h3, hl, hb⟩ := hrel
    by_cases hlt : j < 256
    · have H0 := Lib.hid h0
      have H1 := Lib.hid h1
      have H2 := Lib.hid h2
      have H3 := Lib.hid h3
      clear h0 h1 h2 h3
      cases hx : hasI f (j : Int)
      · cases hy : hasI g (j : Int)
        · skip
          have HK := Lib.hid (accS_no (K := fun b => hasI f b || hasI g b) (j := j) (by simp [hx, hy]))
          have c0 := cell4 H0.out 0 (by omega)
          have c1 := cell4 H0.out 1 (by omega)
          have c2 := cell4 H0.out 2 (by omega)
          have c3 := cell4 H0.out 3 (by omega)
          go_wp2_with fail
          refine (refhas_any f (j : Int) _).mono ?_
          rintro e w1 ⟨rfl, hc1⟩
          clear c0 c1 c2 c3
          have H0q1 := Lib.hid ((hc1.block (w.heap.size) (by omega)).trans H0.out)
          have H1q1 := Lib.hid ((hc1.block (w.heap.size + 1) (by omega)).trans H1.out)
          have H2q1 := Lib.hid ((hc1.block (w.heap.size + 2) (by omega)).trans H2.out)
          have H3q1 := Lib.hid ((hc1.block (w.heap.size + 3) (by omega)).trans H3.out)
          have hbq1 : Below w.heap.size w w1 := hb.trans (hc1.mono hb.size)
          have hlq1 : w.heap.size + 4 ≤ w1.heap.size := Nat.le_trans hl hc1.size
          clear H0 H1 H2 H3 hb hl hc1
          have c0 := cell4 H1q1.out 0 (by omega)
          have c1 := cell4 H1q1.out 1 (by omega)
          have c2 := cell4 H1q1.out 2 (by omega)
          have c3 := cell4 H1q1.out 3 (by omega)
          go_wp2_with fail
          refine (refhas_any g (j : Int) _).mono ?_
          rintro e w2 ⟨rfl, hc2⟩
          clear c0 c1 c2 c3
          have H0q2 := Lib.hid ((hc2.block (w.heap.size) (by omega)).trans H0q1.out)
          have H1q2 := Lib.hid ((hc2.block (w.heap.size + 1) (by omega)).trans H1q1.out)
          have H2q2 := Lib.hid ((hc2.block (w.heap.size + 2) (by omega)).trans H2q1.out)
          have H3q2 := Lib.hid ((hc2.block (w.heap.size + 3) (by omega)).trans H3q1.out)
          have hbq2 : Below w.heap.size w w2 := hbq1.trans (hc2.mono hbq1.size)
          have hlq2 : w.heap.size + 4 ≤ w2.heap.size := Nat.le_trans hlq1 hc2.size
          clear H0q1 H1q1 H2q1 H3q1 hbq1 hlq1 hc2
          go_wp2
          go_roundw
          case rel => exact ⟨j + 1, by omega, by go_num, H0q2.out, H1q2.out, H2q2.out, by rw [HK.out]; exact H3q2.out, hlq2, hbq2⟩
          case measure => simp [intOf]; omega
        · skip
          have HK := Lib.hid (accS_yes (K := fun b => hasI f b || hasI g b) (j := j) (by simp [hx, hy]))
          have c0 := cell4 H0.out 0 (by omega)
          have c1 := cell4 H0.out 1 (by omega)
          have c2 := cell4 H0.out 2 (by omega)
          have c3 := cell4 H0.out 3 (by omega)
          go_wp2_with fail
          refine (refhas_any f (j : Int) _).mono ?_
          rintro e w1 ⟨rfl, hc1⟩
          clear c0 c1 c2 c3
          have H0q1 := Lib.hid ((hc1.block (w.heap.size) (by omega)).trans H0.out)
          have H1q1 := Lib.hid ((hc1.block (w.heap.size + 1) (by omega)).trans H1.out)
          have H2q1 := Lib.hid ((hc1.block (w.heap.size + 2) (by omega)).trans H2.out)
          have H3q1 := Lib.hid ((hc1.block (w.heap.size + 3) (by omega)).trans H3.out)
          have hbq1 : Below w.heap.size w w1 := hb.trans (hc1.mono hb.size)
          have hlq1 : w.heap.size + 4 ≤ w1.heap.size := Nat.le_trans hl hc1.size
          clear H0 H1 H2 H3 hb hl hc1
          have c0 := cell4 H1q1.out 0 (by omega)
          have c1 := cell4 H1q1.out 1 (by omega)
          have c2 := cell4 H1q1.out 2 (by omega)
          have c3 := cell4 H1q1.out 3 (by omega)
          go_wp2_with fail
          refine (refhas_any g (j : Int) _).mono ?_
          rintro e w2 ⟨rfl, hc2⟩
          clear c0 c1 c2 c3
          have H0q2 := Lib.hid ((hc2.block (w.heap.size) (by omega)).trans H0q1.out)
          have H1q2 := Lib.hid ((hc2.block (w.heap.size + 1) (by omega)).trans H1q1.out)
          have H2q2 := Lib.hid ((hc2.block (w.heap.size + 2) (by omega)).trans H2q1.out)
          have H3q2 := Lib.hid ((hc2.block (w.heap.size + 3) (by omega)).trans H3q1.out)
          have hbq2 : Below w.heap.size w w2 := hbq1.trans (hc2.mono hbq1.size)
          have hlq2 : w.heap.size + 4 ≤ w2.heap.size := Nat.le_trans hlq1 hc2.size
          clear H0q1 H1q1 H2q1 H3q1 hbq1 hlq1 hc2
          have c0 := cell4 H3q2.out 0 (by omega)
          have c1 := cell4 H3q2.out 1 (by omega)
          have c2 := cell4 H3q2.out 2 (by omega)
          have c3 := cell4 H3q2.out 3 (by omega)
          go_wp2_with fail
          refine (add_any (accS (fun b => hasI f b || hasI g b) j) (j : Int) (by omega) (by omega) _).mono ?_
          rintro e w3 ⟨rfl, hc3⟩
          clear c0 c1 c2 c3
          have H0q3 := Lib.hid ((hc3.block (w.heap.size) (by omega)).trans H0q2.out)
          have H1q3 := Lib.hid ((hc3.block (w.heap.size + 1) (by omega)).trans H1q2.out)
          have H2q3 := Lib.hid ((hc3.block (w.heap.size + 2) (by omega)).trans H2q2.out)
          have H3q3 := Lib.hid ((hc3.block (w.heap.size + 3) (by omega)).trans H3q2.out)
          have hbq3 : Below w.heap.size w w3 := hbq2.trans (hc3.mono hbq2.size)
          have hlq3 : w.heap.size + 4 ≤ w3.heap.size := Nat.le_trans hlq2 hc3.size
          clear H0q2 H1q2 H2q2 H3q2 hbq2 hlq2 hc3
          have c0 := cell4 H3q3.out 0 (by omega)
          have c1 := cell4 H3q3.out 1 (by omega)
          have c2 := cell4 H3q3.out 2 (by omega)
          have c3 := cell4 H3q3.out 3 (by omega)
          have f0 := frozen_of_row _ _ 0 _ _ H3q3.out
          have f1 := frozen_of_row _ _ 1 _ _ H3q3.out
          have f2 := frozen_of_row _ _ 2 _ _ H3q3.out
          have f3 := frozen_of_row _ _ 3 _ _ H3q3.out
          go_wp2
          go_roundw
          case rel => exact ⟨j + 1, by omega, by go_num, (put4_other w3 _ _ _ (by omega)).trans H0q3.out, (put4_other w3 _ _ _ (by omega)).trans H1q3.out, (put4_other w3 _ _ _ (by omega)).trans H2q3.out, by rw [HK.out]; exact stored4 _ H3q3.out, by rw [put4_size]; exact hlq3, put4_below _ hbq3 (by omega)⟩
          case measure => simp [intOf]; omega
      · skip
        have HK := Lib.hid (accS_yes (K := fun b => hasI f b || hasI g b) (j := j) (by simp [hx]))
        have c0 := cell4 H0.out 0 (by omega)
        have c1 := cell4 H0.out 1 (by omega)
        have c2 := cell4 H0.out 2 (by omega)
        have c3 := cell4 H0.out 3 (by omega)
        go_wp2_with fail
        refine (refhas_any f (j : Int) _).mono ?_
        rintro e w1 ⟨rfl, hc1⟩
        clear c0 c1 c2 c3
        have H0q1 := Lib.hid ((hc1.block (w.heap.size) (by omega)).trans H0.out)
        have H1q1 := Lib.hid ((hc1.block (w.heap.size + 1) (by omega)).trans H1.out)
        have H2q1 := Lib.hid ((hc1.block (w.heap.size + 2) (by omega)).trans H2.out)
        have H3q1 := Lib.hid ((hc1.block (w.heap.size + 3) (by omega)).trans H3.out)
        have hbq1 : Below w.heap.size w w1 := hb.trans (hc1.mono hb.size)
        have hlq1 : w.heap.size + 4 ≤ w1.heap.size := Nat.le_trans hl hc1.size
        clear H0 H1 H2 H3 hb hl hc1
        have c0 := cell4 H3q1.out 0 (by omega)
        have c1 := cell4 H3q1.out 1 (by omega)
        have c2 := cell4 H3q1.out 2 (by omega)
        have c3 := cell4 H3q1.out 3 (by omega)
        go_wp2_with fail
        refine (add_any (accS (fun b => hasI f b || hasI g b) j) (j : Int) (by omega) (by omega) _).mono ?_
        rintro e w2 ⟨rfl, hc2⟩
        clear c0 c1 c2 c3
        have H0q2 := Lib.hid ((hc2.block (w.heap.size) (by omega)).trans H0q1.out)
        have H1q2 := Lib.hid ((hc2.block (w.heap.size + 1) (by omega)).trans H1q1.out)
        have H2q2 := Lib.hid ((hc2.block (w.heap.size + 2) (by omega)).trans H2q1.out)
        have H3q2 := Lib.hid ((hc2.block (w.heap.size + 3) (by omega)).trans H3q1.out)
        have hbq2 : Below w.heap.size w w2 := hbq1.trans (hc2.mono hbq1.size)
        have hlq2 : w.heap.size + 4 ≤ w2.heap.size := Nat.le_trans hlq1 hc2.size
        clear H0q1 H1q1 H2q1 H3q1 hbq1 hlq1 hc2
        have c0 := cell4 H3q2.out 0 (by omega)
        have c1 := cell4 H3q2.out 1 (by omega)
        have c2 := cell4 H3q2.out 2 (by omega)
        have c3 := cell4 H3q2.out 3 (by omega)
        have f0 := frozen_of_row _ _ 0 _ _ H3q2.out
        have f1 := frozen_of_row _ _ 1 _ _ H3q2.out
        have f2 := frozen_of_row _ _ 2 _ _ H3q2.out
        have f3 := frozen_of_row _ _ 3 _ _ H3q2.out
        go_wp2
        go_roundw
        case rel => exact ⟨j + 1, by omega, by go_num, (put4_other w2 _ _ _ (by omega)).trans H0q2.out, (put4_other w2 _ _ _ (by omega)).trans H1q2.out, (put4_other w2 _ _ _ (by omega)).trans H2q2.out, by rw [HK.out]; exact stored4 _ H3q2.out, by rw [put4_size]; exact hlq2, put4_below _ hbq2 (by omega)⟩
        case measure => simp [intOf]; omega
    · obtain rfl : j = 256 := by omega
      have c0 := cell4 h3 0 (by omega)
      have c1 := cell4 h3 1 (by omega)
      have c2 := cell4 h3 2 (by omega)
      have c3 := cell4 h3 3 (by omega)
      have d0 := cell4 h2 0 (by omega)
      have d1 := cell4 h2 1 (by omega)
      have d2 := cell4 h2 2 (by omega)
      have d3 := cell4 h2 3 (by omega)
      have f0 := frozen_of_row _ _ 0 _ _ h2
      have f1 := frozen_of_row _ _ 1 _ _ h2
      have f2 := frozen_of_row _ _ 2 _ _ h2
      have f3 := frozen_of_row _ _ 3 _ _ h2
      have HR := Lib.hid (stored4 (accS (fun b => hasI f b || hasI g b) 256) h2)
      clear h0 h1 h2 h3
      go_wp2
      refine bodyPost_ret (v := SV (accAll (fun b => hasI f b || hasI g b))) (ret4 Try.results14 rfl HR.out) rfl ⟨rfl, ?_⟩
      exact put4_below (accS (fun b => hasI f b || hasI g b) 256) hb (by omega)
set_option maxRecDepth 100000 in
set_option maxHeartbeats 4000000 in
theorem refand_any (f : Nat → Int) (g : Nat → Int) (w : World) :
    Calls Try.prog 16 #[SV f, SV g] w fun e w' => e = .returned (SV (accAll (fun b => hasI f b && hasI g b))) ∧ Below w.heap.size w w' := by
  go_enter Try.func16, Try.ntmps16
  go_wp2
  go_loopw [6] (fun c wr => ∃ j : Nat, j ≤ 256 ∧ c = .int .i64 j ∧ wr.heap[w.heap.size]? = some (.cells (row4 f) 24 (0, 0)) ∧ wr.heap[w.heap.size + 1]? = some (.cells (row4 g) 24 (0, 0)) ∧ wr.heap[w.heap.size + 2]? = some (.cells (row4 fun _ => 0) 24 (0, 0)) ∧ wr.heap[w.heap.size + 3]? = some (.cells (row4 (accS (fun b => hasI f b && hasI g b) j)) 24 (0, 0)) ∧ w.heap.size + 4 ≤ wr.heap.size ∧ Below w.heap.size w wr) (fun c _ => 256 - (intOf c).toNat)
  case atStart => exact ⟨0, by omega, rfl, heap_alloc4_a _ _ _ _ _, heap_alloc4_b _ _ _ _ _, heap_alloc4_c _ _ _ _ _, heap_alloc4_d _ _ _ _ _, by simp, below_alloc4 _ _ _ _ _⟩
  case round =>
    obtain ⟨j, hj, rfl, h0, h1, h2, h3, hl, hb⟩ := hrel
    by_cases hlt : j < 256
    · have H0 := Lib.hid h0
      have H1 := Lib.hid h1
      have H2 := Lib.hid h2
      have H3 := Lib.hid h3
      clear h0 h1 h2 h3
      cases hx : hasI f (j : Int)
      · skip
        have HK := Lib.hid (accS_no (K := fun b => hasI f b && hasI g b) (j := j) (by simp [hx]))
        have c0 := cell4 H0.out 0 (by omega)
        have c1 := cell4 H0.out 1 (by omega)
        have c2 := cell4 H0.out 2 (by omega)
        have c3 := cell4 H0.out 3 (by omega)
        go_wp2_with fail
        refine (refhas_any f (j : Int) _).mono ?_
        rintro e w1 ⟨rfl, hc1⟩
        clear c0 c1 c2 c3
        have H0q1 := Lib.hid ((hc1.block (w.heap.size) (by omega)).trans H0.out)
        have H1q1 := Lib.hid ((hc1.block (w.heap.size + 1) (by omega)).trans H1.out)
        have H2q1 := Lib.hid ((hc1.block (w.heap.size + 2) (by omega)).trans H2.out)
        have H3q1 := Lib.hid ((hc1.block (w.heap.size + 3) (by omega)).trans H3.out)
        have hbq1 : Below w.heap.size w w1 := hb.trans (hc1.mono hb.size)
        have hlq1 : w.heap.size + 4 ≤ w1.heap.size := Nat.le_trans hl hc1.size
        clear H0 H1 H2 H3 hb hl hc1
        go_wp2
        go_roundw
        case rel => exact ⟨j + 1, by omega, by go_num, H0q1.out, H1q1.out, H2q1.out, by rw [HK.out]; exact H3q1.out, hlq1, hbq1⟩
        case measure => simp [intOf]; omega
      · cases hy : hasI g (j : Int)
        · skip
          have HK := Lib.hid (accS_no (K := fun b => hasI f b && hasI g b) (j := j) (by simp [hx, hy]))
          have c0 := cell4 H0.out 0 (by omega)
          have c1 := cell4 H0.out 1 (by omega)
          have c2 := cell4 H0.out 2 (by omega)
          have c3 := cell4 H0.out 3 (by omega)
          go_wp2_with fail
          refine (refhas_any f (j : Int) _).mono ?_
          rintro e w1 ⟨rfl, hc1⟩
          clear c0 c1 c2 c3
          have H0q1 := Lib.hid ((hc1.block (w.heap.size) (by omega)).trans H0.out)
          have H1q1 := Lib.hid ((hc1.block (w.heap.size + 1) (by omega)).trans H1.out)
          have H2q1 := Lib.hid ((hc1.block (w.heap.size + 2) (by omega)).trans H2.out)
          have H3q1 := Lib.hid ((hc1.block (w.heap.size + 3) (by omega)).trans H3.out)
          have hbq1 : Below w.heap.size w w1 := hb.trans (hc1.mono hb.size)
          have hlq1 : w.heap.size + 4 ≤ w1.heap.size := Nat.le_trans hl hc1.size
          clear H0 H1 H2 H3 hb hl hc1
          have c0 := cell4 H1q1.out 0 (by omega)
          have c1 := cell4 H1q1.out 1 (by omega)
          have c2 := cell4 H1q1.out 2 (by omega)
          have c3 := cell4 H1q1.out 3 (by omega)
          go_wp2_with fail
          refine (refhas_any g (j : Int) _).mono ?_
          rintro e w2 ⟨rfl, hc2⟩
          clear c0 c1 c2 c3
          have H0q2 := Lib.hid ((hc2.block (w.heap.size) (by omega)).trans H0q1.out)
          have H1q2 := Lib.hid ((hc2.block (w.heap.size + 1) (by omega)).trans H1q1.out)
          have H2q2 := Lib.hid ((hc2.block (w.heap.size + 2) (by omega)).trans H2q1.out)
          have H3q2 := Lib.hid ((hc2.block (w.heap.size + 3) (by omega)).trans H3q1.out)
          have hbq2 : Below w.heap.size w w2 := hbq1.trans (hc2.mono hbq1.size)
          have hlq2 : w.heap.size + 4 ≤ w2.heap.size := Nat.le_trans hlq1 hc2.size
          clear H0q1 H1q1 H2q1 H3q1 hbq1 hlq1 hc2
          go_wp2
          go_roundw
          case rel => exact ⟨j + 1, by omega, by go_num, H0q2.out, H1q2.out, H2q2.out, by rw [HK.out]; exact H3q2.out, hlq2, hbq2⟩
          case measure => simp [intOf]; omega
        · skip
          have HK := Lib.hid (accS_yes (K := fun b => hasI f b && hasI g b) (j := j) (by simp [hx, hy]))
          have c0 := cell4 H0.out 0 (by omega)
          have c1 := cell4 H0.out 1 (by omega)
          have c2 := cell4 H0.out 2 (by omega)
          have c3 := cell4 H0.out 3 (by omega)
          go_wp2_with fail
          refine (refhas_any f (j : Int) _).mono ?_
          rintro e w1 ⟨rfl, hc1⟩
          clear c0 c1 c2 c3
          have H0q1 := Lib.hid ((hc1.block (w.heap.size) (by omega)).trans H0.out)
          have H1q1 := Lib.hid ((hc1.block (w.heap.size + 1) (by omega)).trans H1.out)
          have H2q1 := Lib.hid ((hc1.block (w.heap.size + 2) (by omega)).trans H2.out)
          have H3q1 := Lib.hid ((hc1.block (w.heap.size + 3) (by omega)).trans H3.out)
          have hbq1 : Below w.heap.size w w1 := hb.trans (hc1.mono hb.size)
          have hlq1 : w.heap.size + 4 ≤ w1.heap.size := Nat.le_trans hl hc1.size
          clear H0 H1 H2 H3 hb hl hc1
          have c0 := cell4 H1q1.out 0 (by omega)
          have c1 := cell4 H1q1.out 1 (by omega)
          have c2 := cell4 H1q1.out 2 (by omega)
          have c3 := cell4 H1q1.out 3 (by omega)
          go_wp2_with fail
          refine (refhas_any g (j : Int) _).mono ?_
          rintro e w2 ⟨rfl, hc2⟩
          clear c0 c1 c2 c3
          have H0q2 := Lib.hid ((hc2.block (w.heap.size) (by omega)).trans H0q1.out)
          have H1q2 := Lib.hid ((hc2.block (w.heap.size + 1) (by omega)).trans H1q1.out)
          have H2q2 := Lib.hid ((hc2.block (w.heap.size + 2) (by omega)).trans H2q1.out)
          have H3q2 := Lib.hid ((hc2.block (w.heap.size + 3) (by omega)).trans H3q1.out)
          have hbq2 : Below w.heap.size w w2 := hbq1.trans (hc2.mono hbq1.size)
          have hlq2 : w.heap.size + 4 ≤ w2.heap.size := Nat.le_trans hlq1 hc2.size
          clear H0q1 H1q1 H2q1 H3q1 hbq1 hlq1 hc2
          have c0 := cell4 H3q2.out 0 (by omega)
          have c1 := cell4 H3q2.out 1 (by omega)
          have c2 := cell4 H3q2.out 2 (by omega)
          have c3 := cell4 H3q2.out 3 (by omega)
          go_wp2_with fail
          refine (add_any (accS (fun b => hasI f b && hasI g b) j) (j : Int) (by omega) (by omega) _).mono ?_
          rintro e w3 ⟨rfl, hc3⟩
          clear c0 c1 c2 c3
          have H0q3 := Lib.hid ((hc3.block (w.heap.size) (by omega)).trans H0q2.out)
          have H1q3 := Lib.hid ((hc3.block (w.heap.size + 1) (by omega)).trans H1q2.out)
          have H2q3 := Lib.hid ((hc3.block (w.heap.size + 2) (by omega)).trans H2q2.out)
          have H3q3 := Lib.hid ((hc3.block (w.heap.size + 3) (by omega)).trans H3q2.out)
          have hbq3 : Below w.heap.size w w3 := hbq2.trans (hc3.mono hbq2.size)
          have hlq3 : w.heap.size + 4 ≤ w3.heap.size := Nat.le_trans hlq2 hc3.size
          clear H0q2 H1q2 H2q2 H3q2 hbq2 hlq2 hc3
          have c0 := cell4 H3q3.out 0 (by omega)
          have c1 := cell4 H3q3.out 1 (by omega)
          have c2 := cell4 H3q3.out 2 (by omega)
          have c3 := cell4 H3q3.out 3 (by omega)
          have f0 := frozen_of_row _ _ 0 _ _ H3q3.out
          have f1 := frozen_of_row _ _ 1 _ _ H3q3.out
          have f2 := frozen_of_row _ _ 2 _ _ H3q3.out
          have f3 := frozen_of_row _ _ 3 _ _ H3q3.out
          go_wp2
          go_roundw
          case rel => exact ⟨j + 1, by omega, by go_num, (put4_other w3 _ _ _ (by omega)).trans H0q3.out, (put4_other w3 _ _ _ (by omega)).trans H1q3.out, (put4_other w3 _ _ _ (by omega)).trans H2q3.out, by rw [HK.out]; exact stored4 _ H3q3.out, by rw [put4_size]; exact hlq3, put4_below _ hbq3 (by omega)⟩
          case measure => simp [intOf]; omega
    · obtain rfl : j = 256 := by omega
      have c0 := cell4 h3 0 (by omega)
      have c1 := cell4 h3 1 (by omega)
      have c2 := cell4 h3 2 (by omega)
      have c3 := cell4 h3 3 (by omega)
      have d0 := cell4 h2 0 (by omega)
      have d1 := cell4 h2 1 (by omega)
      have d2 := cell4 h2 2 (by omega)
      have d3 := cell4 h2 3 (by omega)
      have f0 := frozen_of_row _ _ 0 _ _ h2
      have f1 := frozen_of_row _ _ 1 _ _ h2
      have f2 := frozen_of_row _ _ 2 _ _ h2
      have f3 := frozen_of_row _ _ 3 _ _ h2
      have HR := Lib.hid (stored4 (accS (fun b => hasI f b && hasI g b) 256) h2)
      clear h0 h1 h2 h3
      go_wp2
      refine bodyPost_ret (v := SV (accAll (fun b => hasI f b && hasI g b))) (ret4 Try.results16 rfl HR.out) rfl ⟨rfl, ?_⟩
      exact put4_below (accS (fun b => hasI f b && hasI g b) 256) hb (by omega)
end Go.Proofs.Ythloafbgfjhicaa
