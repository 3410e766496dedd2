/- The document's own Of, Or and Not of layer 1: contracts, and which bytes are in what they make. No conditions. Carried over from stage 1. -/
import Derived.Test.YtjjnpobppmmgbaaA
namespace Go.Proofs.Ytjjnpobppmmgbaa
open Go.RowKit
/-- Four words of 64 bits. -/
def Wf (f : Nat → Int) : Prop := ∀ i, i < 4 → 0 ≤ f i ∧ f i < 18446744073709551616
theorem nat_of {x : Int} (h : 0 ≤ x ∧ x < 18446744073709551616) : ∃ n : Nat, x = (n : Int) ∧ n < 18446744073709551616 := ⟨x.toNat, by omega, by omega⟩
theorem and1_bit {x : Int} (h : 0 ≤ x ∧ x < 18446744073709551616) (k : Nat) : (bits .and .u64 (x / 2 ^ k) 1 == 1) = x.toNat.testBit k := by
  obtain ⟨n, rfl, hn⟩ := nat_of h
  have e1 : ((n : Int) / 2 ^ k) = ((n / 2 ^ k : Nat) : Int) := by simp
  have hl : n / 2 ^ k < 18446744073709551616 := Nat.lt_of_le_of_lt (Nat.div_le_self _ _) hn
  rw [e1, show (1 : Int) = ((1 : Nat) : Int) from rfl, u64_and_nat _ _ hl (by omega), Nat.and_one_is_mod, Int.toNat_natCast, Nat.testBit_eq_decide_div_mod_eq]
  rw [Bool.eq_iff_iff]; simp; omega
theorem or_bit {x y : Int} (hx : 0 ≤ x ∧ x < 18446744073709551616) (hy : 0 ≤ y ∧ y < 18446744073709551616) :
    (0 ≤ bits .or .u64 x y ∧ bits .or .u64 x y < 18446744073709551616) ∧ ∀ k, (bits .or .u64 x y).toNat.testBit k = (x.toNat.testBit k || y.toNat.testBit k) := by
  obtain ⟨n, rfl, hn⟩ := nat_of hx
  obtain ⟨m, rfl, hm⟩ := nat_of hy
  rw [u64_or_nat _ _ hn hm]
  have := Nat.or_lt_two_pow (n := 64) hn hm
  exact ⟨by omega, fun k => by simp⟩
theorem pow_wrap {j : Nat} (h : j < 64) : IntKind.u64.wrap (2 ^ j) = ((2 ^ j : Nat) : Int) ∧ 2 ^ j < 18446744073709551616 := by
  have h1 : 2 ^ j < 2 ^ 64 := Nat.pow_lt_pow_right (by omega) h
  refine ⟨?_, h1⟩
  rw [IntKind.wrap_u64, show ((2 : Int) ^ j) = ((2 ^ j : Nat) : Int) from by simp]
  generalize 2 ^ j = m at *
  omega
theorem hasI_bit {f : Nat → Int} (hf : Wf f) {b : Int} (h0 : 0 ≤ b) (h1 : b < 256) : hasI f b = (f (b / 64).toNat).toNat.testBit (b % 64).toNat := by
  rw [hasI_in h0 h1, and1_bit (hf _ (by omega))]
/-- A set with the byte b. -/
def addS (f : Nat → Int) (b : Int) (i : Nat) : Int := if i = (b / 64).toNat then bits .or .u64 (f (b / 64).toNat) (IntKind.u64.wrap (2 ^ (b % 64).toNat)) else f i
theorem row_set (f : Nat → Int) (i : Nat) (hi : i < 4) (x : Int) : (row4 f).setIfInBounds i (.int .u64 x) = row4 fun j => if j = i then x else f j := by
  match i, hi with
  | 0, _ => simp
  | 1, _ => simp
  | 2, _ => simp
  | 3, _ => simp
set_option maxHeartbeats 400000 in
theorem add_any (f : Nat → Int) (b : Int) (h0 : 0 ≤ b) (h1 : b < 256) (w : World) :
    Calls Try.prog 21 #[SV f, .int .i64 b] w fun e w' => e = .returned (SV (addS f b)) ∧ Below w.heap.size w w' := by
  have hq : 0 ≤ b / 64 := by omega
  have hq4 : b / 64 < 4 := by omega
  have hr : 0 ≤ b % 64 := by omega
  go_enter Try.func21, Try.ntmps21
  go_wp2
  have HP := Lib.hid (heap_alloc2_old w (.cells (row4 f) 36 (0, 0)) (.cells (row4 fun _ => 0) 36 (0, 0)))
  have HQ := Lib.hid (heap_alloc2_new w (.cells (row4 f) 36 (0, 0)) (.cells (row4 fun _ => 0) 36 (0, 0)))
  have hB : Below w.heap.size w ((w.alloc (.cells (row4 f) 36 (0, 0))).alloc (.cells (row4 fun _ => 0) 36 (0, 0))) := ((Below.refl _ _).alloc (Nat.le_refl _) _).alloc (by simp) _
  generalize (w.alloc (.cells (row4 f) 36 (0, 0))).alloc (.cells (row4 fun _ => 0) 36 (0, 0)) = w2 at *
  have cp := cell4 HP.out (b / 64).toNat (by omega)
  have fp := frozen_of_row _ _ (b / 64).toNat _ _ HP.out
  have HS : Hid ((w2.setCell ⟨w.heap.size, (b / 64).toNat, none⟩ (.int .u64 (bits .or .u64 (f (b / 64).toNat) (IntKind.u64.wrap (2 ^ (b % 64).toNat))))).heap[w.heap.size]? = some (.cells (row4 (addS f b)) 36 (0, 0))) :=
    Lib.hid ((heap_setCell_same w2 _ _ _ _ _ HP.out).trans (by rw [row_set f _ (by omega)]; rfl))
  have HT := Lib.hid ((heap_setCell_other w2 ⟨w.heap.size, (b / 64).toNat, none⟩ (w.heap.size + 1) (.int .u64 (bits .or .u64 (f (b / 64).toNat) (IntKind.u64.wrap (2 ^ (b % 64).toNat)))) (by dsimp only; omega)).trans HQ.out)
  have hB2 := Lib.hid (hB.setCell (p := ⟨w.heap.size, (b / 64).toNat, none⟩) (Nat.le_refl _) (.int .u64 (bits .or .u64 (f (b / 64).toNat) (IntKind.u64.wrap (2 ^ (b % 64).toNat)))))
  go_region
  clear cp fp hB HP HQ
  generalize w2.setCell ⟨w.heap.size, (b / 64).toNat, none⟩ (.int .u64 (bits .or .u64 (f (b / 64).toNat) (IntKind.u64.wrap (2 ^ (b % 64).toNat)))) = w3 at *
  have c0 := cell4 HS.out 0 (by omega)
  have c1 := cell4 HS.out 1 (by omega)
  have c2 := cell4 HS.out 2 (by omega)
  have c3 := cell4 HS.out 3 (by omega)
  have d0 := cell4 HT.out 0 (by omega)
  have d1 := cell4 HT.out 1 (by omega)
  have d2 := cell4 HT.out 2 (by omega)
  have d3 := cell4 HT.out 3 (by omega)
  have f0 := frozen_of_row _ _ 0 _ _ HT.out
  have f1 := frozen_of_row _ _ 1 _ _ HT.out
  have f2 := frozen_of_row _ _ 2 _ _ HT.out
  have f3 := frozen_of_row _ _ 3 _ _ HT.out
  have HR := Lib.hid (stored4 (addS f b) HT.out)
  go_wp2
  refine bodyPost_ret (v := SV (addS f b)) (ret4 Try.results21 rfl (by exact HR.out)) rfl ⟨rfl, ?_⟩
  exact ((((hB2.out.setCell (by simp) _).setCell (by simp) _).setCell (by simp) _).setCell (by simp) _).drew
/-- The set of the bytes below j for which K says yes, byte by byte. -/
def accS (K : Int → Bool) : Nat → Nat → Int
  | 0 => fun _ => 0
  | j + 1 => if K (j : Int) then addS (accS K j) (j : Int) else accS K j
theorem accS_yes {K : Int → Bool} {j : Nat} (h : K (j : Int) = true) : accS K (j + 1) = addS (accS K j) (j : Int) := by
  show (if _ then _ else _) = _; rw [h]; rfl
theorem accS_no {K : Int → Bool} {j : Nat} (h : K (j : Int) = false) : accS K (j + 1) = accS K j := by
  show (if _ then _ else _) = _; rw [h]; rfl
def accAll (K : Int → Bool) : Nat → Int := accS K 256
/-- The world behind a set's being stored in block g. -/
abbrev put4 (w : World) (g : Nat) (f : Nat → Int) : World := (((w.setCell ⟨g, 0, none⟩ (.int .u64 (f 0))).setCell ⟨g, 1, none⟩ (.int .u64 (f 1))).setCell ⟨g, 2, none⟩ (.int .u64 (f 2))).setCell ⟨g, 3, none⟩ (.int .u64 (f 3))
theorem put4_other (w : World) (g k : Nat) (f : Nat → Int) (h : k ≠ g) : (put4 w g f).heap[k]? = w.heap[k]? := by
  rw [heap_setCell_other _ _ _ _ h, heap_setCell_other _ _ _ _ h, heap_setCell_other _ _ _ _ h, heap_setCell_other _ _ _ _ h]
theorem put4_below {w0 w : World} {B g : Nat} (f : Nat → Int) (h : Below B w0 w) (hg : B ≤ g) : Below B w0 (put4 w g f) :=
  (((h.setCell hg _).setCell hg _).setCell hg _).setCell hg _
theorem put4_size (w : World) (g : Nat) (f : Nat → Int) : (put4 w g f).heap.size = w.heap.size := by simp
set_option maxRecDepth 100000 in
set_option maxHeartbeats 1000000 in
theorem refof_any (x y : Int) (w : World) :
    Calls Try.prog 17 #[.int .i64 x, .int .i64 y] w fun e w' => e = .returned (SV (accAll (ofK x y))) ∧ Below w.heap.size w w' := by
  go_enter Try.func17, Try.ntmps17
  go_wp2
  go_loopw [6] (fun c wr => ∃ j : Nat, j ≤ 256 ∧ c = .int .i64 j ∧ wr.heap[w.heap.size]? = some (.cells (row4 fun _ => 0) 36 (0, 0)) ∧ wr.heap[w.heap.size + 1]? = some (.cells (row4 (accS (ofK x y) j)) 36 (0, 0)) ∧ w.heap.size + 2 ≤ wr.heap.size ∧ Below w.heap.size w wr) (fun c _ => 256 - (intOf c).toNat)
  case atStart => exact ⟨0, by omega, rfl, heap_alloc2_old _ _ _, heap_alloc2_new _ _ _, by simp, ((Below.refl _ _).alloc (Nat.le_refl _) _).alloc (by simp) _⟩
  case round =>
    obtain ⟨j, hj, rfl, hr, hs, hl, hb⟩ := hrel
    by_cases hlt : j < 256
    · have HR := Lib.hid hr
      have HS := Lib.hid hs
      by_cases hxj : x ≤ (j : Int)
      · by_cases hyj : (j : Int) ≤ y
        · have HK := Lib.hid (accS_yes (K := ofK x y) (j := j) (by simp [ofK, hxj, hyj]))
          have c0 := cell4 hs 0 (by omega)
          have c1 := cell4 hs 1 (by omega)
          have c2 := cell4 hs 2 (by omega)
          have c3 := cell4 hs 3 (by omega)
          clear hr hs
          go_wp2_with fail
          refine (add_any (accS (ofK x y) j) (j : Int) (by omega) (by omega) _).mono ?_
          rintro e w1 ⟨rfl, hb1⟩
          have hs1 := (hb1.block (w.heap.size + 1) (by omega)).trans HS.out
          have HR1 := Lib.hid ((hb1.block w.heap.size (by omega)).trans HR.out)
          have hB1 : Below w.heap.size w w1 := hb.trans (hb1.mono hb.size)
          have hl1 : w.heap.size + 2 ≤ w1.heap.size := Nat.le_trans hl hb1.size
          clear c0 c1 c2 c3 hb hl hb1 HR HS
          have d0 := cell4 hs1 0 (by omega)
          have d1 := cell4 hs1 1 (by omega)
          have d2 := cell4 hs1 2 (by omega)
          have d3 := cell4 hs1 3 (by omega)
          have f0 := frozen_of_row _ _ 0 _ _ hs1
          have f1 := frozen_of_row _ _ 1 _ _ hs1
          have f2 := frozen_of_row _ _ 2 _ _ hs1
          have f3 := frozen_of_row _ _ 3 _ _ hs1
          have HS1 := Lib.hid hs1
          clear hs1
          go_wp2
          go_roundw
          case rel => exact ⟨j + 1, by omega, by go_num, (put4_other w1 _ _ _ (by omega)).trans HR1.out, by rw [HK.out]; exact stored4 _ HS1.out, by rw [put4_size]; exact hl1, put4_below _ hB1 (by omega)⟩
          case measure => simp [intOf]; omega
        · have HK := Lib.hid (accS_no (K := ofK x y) (j := j) (by simp [ofK]; omega))
          clear hr hs
          go_wp2
          go_roundw
          case rel => exact ⟨j + 1, by omega, by go_num, HR.out, by rw [HK.out]; exact HS.out, hl, hb⟩
          case measure => simp [intOf]; omega
      · have HK := Lib.hid (accS_no (K := ofK x y) (j := j) (by simp [ofK]; omega))
        clear hr hs
        go_wp2
        go_roundw
        case rel => exact ⟨j + 1, by omega, by go_num, HR.out, by rw [HK.out]; exact HS.out, hl, hb⟩
        case measure => simp [intOf]; omega
    · obtain rfl : j = 256 := by omega
      have c0 := cell4 hs 0 (by omega)
      have c1 := cell4 hs 1 (by omega)
      have c2 := cell4 hs 2 (by omega)
      have c3 := cell4 hs 3 (by omega)
      have d0 := cell4 hr 0 (by omega)
      have d1 := cell4 hr 1 (by omega)
      have d2 := cell4 hr 2 (by omega)
      have d3 := cell4 hr 3 (by omega)
      have f0 := frozen_of_row _ _ 0 _ _ hr
      have f1 := frozen_of_row _ _ 1 _ _ hr
      have f2 := frozen_of_row _ _ 2 _ _ hr
      have f3 := frozen_of_row _ _ 3 _ _ hr
      have HR := Lib.hid (stored4 (accS (ofK x y) 256) hr)
      clear hr hs
      go_wp2
      refine bodyPost_ret (v := SV (accAll (ofK x y))) (ret4 Try.results17 rfl HR.out) rfl ⟨rfl, ?_⟩
      exact put4_below (accS (ofK x y) 256) hb (Nat.le_refl _)
theorem heap_alloc4_a (w : World) (A B C D : Obj) : ((((w.alloc A).alloc B).alloc C).alloc D).heap[w.heap.size]? = some A := by
  rw [Below.heap_alloc _ _ _ (by simp; omega)]; exact heap_alloc3_a _ _ _ _
theorem heap_alloc4_b (w : World) (A B C D : Obj) : ((((w.alloc A).alloc B).alloc C).alloc D).heap[w.heap.size + 1]? = some B := by
  rw [Below.heap_alloc _ _ _ (by simp)]; exact heap_alloc3_b _ _ _ _
theorem heap_alloc4_c (w : World) (A B C D : Obj) : ((((w.alloc A).alloc B).alloc C).alloc D).heap[w.heap.size + 2]? = some C := by
  rw [Below.heap_alloc _ _ _ (by simp)]; exact heap_alloc3_c _ _ _ _
theorem heap_alloc4_d (w : World) (A B C D : Obj) : ((((w.alloc A).alloc B).alloc C).alloc D).heap[w.heap.size + 3]? = some D := by
  have := heap_alloc_new (((w.alloc A).alloc B).alloc C) D
  simpa using this
theorem below_alloc3 (w : World) (A B C : Obj) : Below w.heap.size w (((w.alloc A).alloc B).alloc C) :=
  (((Below.refl _ _).alloc (Nat.le_refl _) _).alloc (by simp) _).alloc (by simp; omega) _
theorem below_alloc4 (w : World) (A B C D : Obj) : Below w.heap.size w ((((w.alloc A).alloc B).alloc C).alloc D) :=
  (below_alloc3 w A B C).alloc (by simp; omega) _
set_option maxRecDepth 100000 in
set_option maxHeartbeats 4000000 in
theorem refnot_any (f : Nat → Int) (w : World) :
    Calls Try.prog 15 #[SV f] w fun e w' => e = .returned (SV (accAll (fun b => !hasI f b))) ∧ Below w.heap.size w w' := by
  go_enter Try.func15, Try.ntmps15
  go_wp2
  go_loopw [4] (fun c wr => ∃ j : Nat, j ≤ 256 ∧ c = .int .i64 j ∧ wr.heap[w.heap.size]? = some (.cells (row4 f) 36 (0, 0)) ∧ wr.heap[w.heap.size + 1]? = some (.cells (row4 fun _ => 0) 36 (0, 0)) ∧ wr.heap[w.heap.size + 2]? = some (.cells (row4 (accS (fun b => !hasI f b) j)) 36 (0, 0)) ∧ w.heap.size + 3 ≤ wr.heap.size ∧ Below w.heap.size w wr) (fun c _ => 256 - (intOf c).toNat)
  case atStart => exact ⟨0, by omega, rfl, heap_alloc3_a _ _ _ _, heap_alloc3_b _ _ _ _, heap_alloc3_c _ _ _ _, by simp, below_alloc3 _ _ _ _⟩
  case round =>
    obtain ⟨j, hj, rfl, h0, h1, h2, hl, hb⟩ := hrel
    by_cases hlt : j < 256
    · have H0 := Lib.hid h0
      have H1 := Lib.hid h1
      have H2 := Lib.hid h2
      clear h0 h1 h2
      cases hx : hasI f (j : Int)
      · skip
        have HK := Lib.hid (accS_yes (K := fun b => !hasI f b) (j := j) (by simp [hx]))
        have c0 := cell4 H0.out 0 (by omega)
        have c1 := cell4 H0.out 1 (by omega)
        have c2 := cell4 H0.out 2 (by omega)
        have c3 := cell4 H0.out 3 (by omega)
        go_wp2_with fail
        refine (refhas_any f (j : Int) _).mono ?_
        rintro e w1 ⟨rfl, hc1⟩
        clear c0 c1 c2 c3
        have H0q1 := Lib.hid ((hc1.block (w.heap.size) (by omega)).trans H0.out)
        have H1q1 := Lib.hid ((hc1.block (w.heap.size + 1) (by omega)).trans H1.out)
        have H2q1 := Lib.hid ((hc1.block (w.heap.size + 2) (by omega)).trans H2.out)
        have hbq1 : Below w.heap.size w w1 := hb.trans (hc1.mono hb.size)
        have hlq1 : w.heap.size + 3 ≤ w1.heap.size := Nat.le_trans hl hc1.size
        clear H0 H1 H2 hb hl hc1
        have c0 := cell4 H2q1.out 0 (by omega)
        have c1 := cell4 H2q1.out 1 (by omega)
        have c2 := cell4 H2q1.out 2 (by omega)
        have c3 := cell4 H2q1.out 3 (by omega)
        go_wp2_with fail
        refine (add_any (accS (fun b => !hasI f b) j) (j : Int) (by omega) (by omega) _).mono ?_
        rintro e w2 ⟨rfl, hc2⟩
        clear c0 c1 c2 c3
        have H0q2 := Lib.hid ((hc2.block (w.heap.size) (by omega)).trans H0q1.out)
        have H1q2 := Lib.hid ((hc2.block (w.heap.size + 1) (by omega)).trans H1q1.out)
        have H2q2 := Lib.hid ((hc2.block (w.heap.size + 2) (by omega)).trans H2q1.out)
        have hbq2 : Below w.heap.size w w2 := hbq1.trans (hc2.mono hbq1.size)
        have hlq2 : w.heap.size + 3 ≤ w2.heap.size := Nat.le_trans hlq1 hc2.size
        clear H0q1 H1q1 H2q1 hbq1 hlq1 hc2
        have c0 := cell4 H2q2.out 0 (by omega)
        have c1 := cell4 H2q2.out 1 (by omega)
        have c2 := cell4 H2q2.out 2 (by omega)
        have c3 := cell4 H2q2.out 3 (by omega)
        have f0 := frozen_of_row _ _ 0 _ _ H2q2.out
        have f1 := frozen_of_row _ _ 1 _ _ H2q2.out
        have f2 := frozen_of_row _ _ 2 _ _ H2q2.out
        have f3 := frozen_of_row _ _ 3 _ _ H2q2.out
        go_wp2
        go_roundw
        case rel => exact ⟨j + 1, by omega, by go_num, (put4_other w2 _ _ _ (by omega)).trans H0q2.out, (put4_other w2 _ _ _ (by omega)).trans H1q2.out, by rw [HK.out]; exact stored4 _ H2q2.out, by rw [put4_size]; exact hlq2, put4_below _ hbq2 (by omega)⟩
        case measure => simp [intOf]; omega
      · skip
        have HK := Lib.hid (accS_no (K := fun b => !hasI f b) (j := j) (by simp [hx]))
        have c0 := cell4 H0.out 0 (by omega)
        have c1 := cell4 H0.out 1 (by omega)
        have c2 := cell4 H0.out 2 (by omega)
        have c3 := cell4 H0.out 3 (by omega)
        go_wp2_with fail
        refine (refhas_any f (j : Int) _).mono ?_
        rintro e w1 ⟨rfl, hc1⟩
        clear c0 c1 c2 c3
        have H0q1 := Lib.hid ((hc1.block (w.heap.size) (by omega)).trans H0.out)
        have H1q1 := Lib.hid ((hc1.block (w.heap.size + 1) (by omega)).trans H1.out)
        have H2q1 := Lib.hid ((hc1.block (w.heap.size + 2) (by omega)).trans H2.out)
        have hbq1 : Below w.heap.size w w1 := hb.trans (hc1.mono hb.size)
        have hlq1 : w.heap.size + 3 ≤ w1.heap.size := Nat.le_trans hl hc1.size
        clear H0 H1 H2 hb hl hc1
        go_wp2
        go_roundw
        case rel => exact ⟨j + 1, by omega, by go_num, H0q1.out, H1q1.out, by rw [HK.out]; exact H2q1.out, hlq1, hbq1⟩
        case measure => simp [intOf]; omega
    · obtain rfl : j = 256 := by omega
      have c0 := cell4 h2 0 (by omega)
      have c1 := cell4 h2 1 (by omega)
      have c2 := cell4 h2 2 (by omega)
      have c3 := cell4 h2 3 (by omega)
      have d0 := cell4 h1 0 (by omega)
      have d1 := cell4 h1 1 (by omega)
      have d2 := cell4 h1 2 (by omega)
      have d3 := cell4 h1 3 (by omega)
      have f0 := frozen_of_row _ _ 0 _ _ h1
      have f1 := frozen_of_row _ _ 1 _ _ h1
      have f2 := frozen_of_row _ _ 2 _ _ h1
      have f3 := frozen_of_row _ _ 3 _ _ h1
      have HR := Lib.hid (stored4 (accS (fun b => !hasI f b) 256) h1)
      clear h0 h1 h2
      go_wp2
      refine bodyPost_ret (v := SV (accAll (fun b => !hasI f b))) (ret4 Try.results15 rfl HR.out) rfl ⟨rfl, ?_⟩
      exact put4_below (accS (fun b => !hasI f b) 256) hb (by omega)
set_option maxRecDepth 100000 in
set_option maxHeartbeats 4000000 in
theorem refor_any (f : Nat → Int) (g : Nat → Int) (w : World) :
    Calls Try.prog 19 #[SV f, SV g] w fun e w' => e = .returned (SV (accAll (fun b => hasI f b || hasI g b))) ∧ Below w.heap.size w w' := by
  go_enter Try.func19, Try.ntmps19
  go_wp2
  go_loopw [6] (fun c wr => ∃ j : Nat, j ≤ 256 ∧ c = .int .i64 j ∧ wr.heap[w.heap.size]? = some (.cells (row4 f) 36 (0, 0)) ∧ wr.heap[w.heap.size + 1]? = some (.cells (row4 g) 36 (0, 0)) ∧ wr.heap[w.heap.size + 2]? = some (.cells (row4 fun _ => 0) 36 (0, 0)) ∧ wr.heap[w.heap.size + 3]? = some (.cells (row4 (accS (fun b => hasI f b || hasI g b) j)) 36 (0, 0)) ∧ w.heap.size + 4 ≤ wr.heap.size ∧ Below w.heap.size w wr) (fun c _ => 256 - (intOf c).toNat)
  case atStart => exact ⟨0, by omega, rfl, heap_alloc4_a _ _ _ _ _, heap_alloc4_b _ _ _ _ _, heap_alloc4_c _ _ _ _ _, heap_alloc4_d _ _ _ _ _, by simp, below_alloc4 _ _ _ _ _⟩
  case round =>
    obtain ⟨j, hj, rfl, h0, h1, h2, h3, hl, hb⟩ := hrel
    by_cases hlt : j < 256
    · have H0 := Lib.hid h0
      have H1 := Lib.hid h1
      have H2 := Lib.hid h2
      have H3 := Lib.hid h3
      clear h0 h1 h2 h3
      cases hx : hasI f (j : Int)
      · cases hy : hasI g (j : Int)
        · skip
          have HK := Lib.hid (accS_no (K := fun b => hasI f b || hasI g b) (j := j) (by simp [hx, hy]))
          have c0 := cell4 H0.out 0 (by omega)
          have c1 := cell4 H0.out 1 (by omega)
          have c2 := cell4 H0.out 2 (by omega)
          have c3 := cell4 H0.out 3 (by omega)
          go_wp2_with fail
          refine (refhas_any f (j : Int) _).mono ?_
          rintro e w1 ⟨rfl, hc1⟩
          clear c0 c1 c2 c3
          have H0q1 := Lib.hid ((hc1.block (w.heap.size) (by omega)).trans H0.out)
          have H1q1 := Lib.hid ((hc1.block (w.heap.size + 1) (by omega)).trans H1.out)
          have H2q1 := Lib.hid ((hc1.block (w.heap.size + 2) (by omega)).trans H2.out)
          have H3q1 := Lib.hid ((hc1.block (w.heap.size + 3) (by omega)).trans H3.out)
          have hbq1 : Below w.heap.size w w1 := hb.trans (hc1.mono hb.size)
          have hlq1 : w.heap.size + 4 ≤ w1.heap.size := Nat.le_trans hl hc1.size
          clear H0 H1 H2 H3 hb hl hc1
          have c0 := cell4 H1q1.out 0 (by omega)
          have c1 := cell4 H1q1.out 1 (by omega)
          have c2 := cell4 H1q1.out 2 (by omega)
          have c3 := cell4 H1q1.out 3 (by omega)
          go_wp2_with fail
          refine (refhas_any g (j : Int) _).mono ?_
          rintro e w2 ⟨rfl, hc2⟩
          clear c0 c1 c2 c3
          have H0q2 := Lib.hid ((hc2.block (w.heap.size) (by omega)).trans H0q1.out)
          have H1q2 := Lib.hid ((hc2.block (w.heap.size + 1) (by omega)).trans H1q1.out)
          have H2q2 := Lib.hid ((hc2.block (w.heap.size + 2) (by omega)).trans H2q1.out)
          have H3q2 := Lib.hid ((hc2.block (w.heap.size + 3) (by omega)).trans H3q1.out)
          have hbq2 : Below w.heap.size w w2 := hbq1.trans (hc2.mono hbq1.size)
          have hlq2 : w.heap.size + 4 ≤ w2.heap.size := Nat.le_trans hlq1 hc2.size
          clear H0q1 H1q1 H2q1 H3q1 hbq1 hlq1 hc2
          go_wp2
          go_roundw
          case rel => exact ⟨j + 1, by omega, by go_num, H0q2.out, H1q2.out, H2q2.out, by rw [HK.out]; exact H3q2.out, hlq2, hbq2⟩
          case measure => simp [intOf]; omega
        · skip
          have HK := Lib.hid (accS_yes (K := fun b => hasI f b || hasI g b) (j := j) (by simp [hx, hy]))
          have c0 := cell4 H0.out 0 (by omega)
          have c1 := cell4 H0.out 1 (by omega)
          have c2 := cell4 H0.out 2 (by omega)
          have c3 := cell4 H0.out 3 (by omega)
          go_wp2_with fail
          refine (refhas_any f (j : Int) _).mono ?_
          rintro e w1 ⟨rfl, hc1⟩
          clear c0 c1 c2 c3
          have H0q1 := Lib.hid ((hc1.block (w.heap.size) (by omega)).trans H0.out)
          have H1q1 := Lib.hid ((hc1.block (w.heap.size + 1) (by omega)).trans H1.out)
          have H2q1 := Lib.hid ((hc1.block (w.heap.size + 2) (by omega)).trans H2.out)
          have H3q1 := Lib.hid ((hc1.block (w.heap.size + 3) (by omega)).trans H3.out)
          have hbq1 : Below w.heap.size w w1 := hb.trans (hc1.mono hb.size)
          have hlq1 : w.heap.size + 4 ≤ w1.heap.size := Nat.le_trans hl hc1.size
          clear H0 H1 H2 H3 hb hl hc1
          have c0 := cell4 H1q1.out 0 (by omega)
          have c1 := cell4 H1q1.out 1 (by omega)
          have c2 := cell4 H1q1.out 2 (by omega)
          have c3 := cell4 H1q1.out 3 (by omega)
          go_wp2_with fail
          refine (refhas_any g (j : Int) _).mono ?_
          rintro e w2 ⟨rfl, hc2⟩
          clear c0 c1 c2 c3
          have H0q2 := Lib.hid ((hc2.block (w.heap.size) (by omega)).trans H0q1.out)
          have H1q2 := Lib.hid ((hc2.block (w.heap.size + 1) (by omega)).trans H1q1.out)
          have H2q2 := Lib.hid ((hc2.block (w.heap.size + 2) (by omega)).trans H2q1.out)
          have H3q2 := Lib.hid ((hc2.block (w.heap.size + 3) (by omega)).trans H3q1.out)
          have hbq2 : Below w.heap.size w w2 := hbq1.trans (hc2.mono hbq1.size)
          have hlq2 : w.heap.size + 4 ≤ w2.heap.size := Nat.le_trans hlq1 hc2.size
          clear H0q1 H1q1 H2q1 H3q1 hbq1 hlq1 hc2
          have c0 := cell4 H3q2.out 0 (by omega)
          have c1 := cell4 H3q2.out 1 (by omega)
          have c2 := cell4 H3q2.out 2 (by omega)
          have c3 := cell4 H3q2.out 3 (by omega)
          go_wp2_with fail
          refine (add_any (accS (fun b => hasI f b || hasI g b) j) (j : Int) (by omega) (by omega) _).mono ?_
          rintro e w3 ⟨rfl, hc3⟩
          clear c0 c1 c2 c3
          have H0q3 := Lib.hid ((hc3.block (w.heap.size) (by omega)).trans H0q2.out)
          have H1q3 := Lib.hid ((hc3.block (w.heap.size + 1) (by omega)).trans H1q2.out)
          have H2q3 := Lib.hid ((hc3.block (w.heap.size + 2) (by omega)).trans H2q2.out)
          have H3q3 := Lib.hid ((hc3.block (w.heap.size + 3) (by omega)).trans H3q2.out)
          have hbq3 : Below w.heap.size w w3 := hbq2.trans (hc3.mono hbq2.size)
          have hlq3 : w.heap.size + 4 ≤ w3.heap.size := Nat.le_trans hlq2 hc3.size
          clear H0q2 H1q2 H2q2 H3q2 hbq2 hlq2 hc3
          have c0 := cell4 H3q3.out 0 (by omega)
          have c1 := cell4 H3q3.out 1 (by omega)
          have c2 := cell4 H3q3.out 2 (by omega)
          have c3 := cell4 H3q3.out 3 (by omega)
          have f0 := frozen_of_row _ _ 0 _ _ H3q3.out
          have f1 := frozen_of_row _ _ 1 _ _ H3q3.out
          have f2 := frozen_of_row _ _ 2 _ _ H3q3.out
          have f3 := frozen_of_row _ _ 3 _ _ H3q3.out
          go_wp2
          go_roundw
          case rel => exact ⟨j + 1, by omega, by go_num, (put4_other w3 _ _ _ (by omega)).trans H0q3.out, (put4_other w3 _ _ _ (by omega)).trans H1q3.out, (put4_other w3 _ _ _ (by omega)).trans H2q3.out, by rw [HK.out]; exact stored4 _ H3q3.out, by rw [put4_size]; exact hlq3, put4_below _ hbq3 (by omega)⟩
          case measure => simp [intOf]; omega
      · skip
        have HK := Lib.hid (accS_yes (K := fun b => hasI f b || hasI g b) (j := j) (by simp [hx]))
        have c0 := cell4 H0.out 0 (by omega)
        have c1 := cell4 H0.out 1 (by omega)
        have c2 := cell4 H0.out 2 (by omega)
        have c3 := cell4 H0.out 3 (by omega)
        go_wp2_with fail
        refine (refhas_any f (j : Int) _).mono ?_
        rintro e w1 ⟨rfl, hc1⟩
        clear c0 c1 c2 c3
        have H0q1 := Lib.hid ((hc1.block (w.heap.size) (by omega)).trans H0.out)
        have H1q1 := Lib.hid ((hc1.block (w.heap.size + 1) (by omega)).trans H1.out)
        have H2q1 := Lib.hid ((hc1.block (w.heap.size + 2) (by omega)).trans H2.out)
        have H3q1 := Lib.hid ((hc1.block (w.heap.size + 3) (by omega)).trans H3.out)
        have hbq1 : Below w.heap.size w w1 := hb.trans (hc1.mono hb.size)
        have hlq1 : w.heap.size + 4 ≤ w1.heap.size := Nat.le_trans hl hc1.size
        clear H0 H1 H2 H3 hb hl hc1
        have c0 := cell4 H3q1.out 0 (by omega)
        have c1 := cell4 H3q1.out 1 (by omega)
        have c2 := cell4 H3q1.out 2 (by omega)
        have c3 := cell4 H3q1.out 3 (by omega)
        go_wp2_with fail
        refine (add_any (accS (fun b => hasI f b || hasI g b) j) (j : Int) (by omega) (by omega) _).mono ?_
        rintro e w2 ⟨rfl, hc2⟩
        clear c0 c1 c2 c3
        have H0q2 := Lib.hid ((hc2.block (w.heap.size) (by omega)).trans H0q1.out)
        have H1q2 := Lib.hid ((hc2.block (w.heap.size + 1) (by omega)).trans H1q1.out)
        have H2q2 := Lib.hid ((hc2.block (w.heap.size + 2) (by omega)).trans H2q1.out)
        have H3q2 := Lib.hid ((hc2.block (w.heap.size + 3) (by omega)).trans H3q1.out)
        have hbq2 : Below w.heap.size w w2 := hbq1.trans (hc2.mono hbq1.size)
        have hlq2 : w.heap.size + 4 ≤ w2.heap.size := Nat.le_trans hlq1 hc2.size
        clear H0q1 H1q1 H2q1 H3q1 hbq1 hlq1 hc2
        have c0 := cell4 H3q2.out 0 (by omega)
        have c1 := cell4 H3q2.out 1 (by omega)
        have c2 := cell4 H3q2.out 2 (by omega)
        have c3 := cell4 H3q2.out 3 (by omega)
        have f0 := frozen_of_row _ _ 0 _ _ H3q2.out
        have f1 := frozen_of_row _ _ 1 _ _ H3q2.out
        have f2 := frozen_of_row _ _ 2 _ _ H3q2.out
        have f3 := frozen_of_row _ _ 3 _ _ H3q2.out
        go_wp2
        go_roundw
        case rel => exact ⟨j + 1, by omega, by go_num, (put4_other w2 _ _ _ (by omega)).trans H0q2.out, (put4_other w2 _ _ _ (by omega)).trans H1q2.out, (put4_other w2 _ _ _ (by omega)).trans H2q2.out, by rw [HK.out]; exact stored4 _ H3q2.out, by rw [put4_size]; exact hlq2, put4_below _ hbq2 (by omega)⟩
        case measure => simp [intOf]; omega
    · obtain rfl : j = 256 := by omega
      have c0 := cell4 h3 0 (by omega)
      have c1 := cell4 h3 1 (by omega)
      have c2 := cell4 h3 2 (by omega)
      have c3 := cell4 h3 3 (by omega)
      have d0 := cell4 h2 0 (by omega)
      have d1 := cell4 h2 1 (by omega)
      have d2 := cell4 h2 2 (by omega)
      have d3 := cell4 h2 3 (by omega)
      have f0 := frozen_of_row _ _ 0 _ _ h2
      have f1 := frozen_of_row _ _ 1 _ _ h2
      have f2 := frozen_of_row _ _ 2 _ _ h2
      have f3 := frozen_of_row _ _ 3 _ _ h2
      have HR := Lib.hid (stored4 (accS (fun b => hasI f b || hasI g b) 256) h2)
      clear h0 h1 h2 h3
      go_wp2
      refine bodyPost_ret (v := SV (accAll (fun b => hasI f b || hasI g b))) (ret4 Try.results19 rfl HR.out) rfl ⟨rfl, ?_⟩
      exact put4_below (accS (fun b => hasI f b || hasI g b) 256) hb (by omega)
theorem wf0 : Wf fun _ => 0 := fun _ _ => by simp
theorem hasI_0 {b : Int} (h0 : 0 ≤ b) (h1 : b < 256) : hasI (fun _ => 0) b = false := by
  rw [hasI_bit wf0 h0 h1]; simp
theorem pow_ok (k : Nat) (h : k < 64) : 0 ≤ IntKind.u64.wrap (2 ^ k) ∧ IntKind.u64.wrap (2 ^ k) < 18446744073709551616 := by
  obtain ⟨p1, p2⟩ := pow_wrap h
  rw [p1]
  generalize 2 ^ k = m at *
  omega
theorem wf_add {f : Nat → Int} (hf : Wf f) {b : Int} (_h0 : 0 ≤ b) (_h1 : b < 256) : Wf (addS f b) := by
  intro i hi
  unfold addS
  by_cases e : i = (b / 64).toNat
  · rw [if_pos e]; exact (or_bit (hf _ (by omega)) (pow_ok _ (by omega))).1
  · rw [if_neg e]; exact hf i hi
theorem hasI_add {f : Nat → Int} (hf : Wf f) {b c : Int} (h0 : 0 ≤ b) (h1 : b < 256) (g0 : 0 ≤ c) (g1 : c < 256) : hasI (addS f b) c = (hasI f c || decide (c = b)) := by
  rw [hasI_bit (wf_add hf h0 h1) g0 g1, hasI_bit hf g0 g1]
  unfold addS
  by_cases e : (c / 64).toNat = (b / 64).toNat
  · rw [if_pos e, (or_bit (hf _ (by omega)) (pow_ok _ (by omega))).2, (pow_wrap (by omega : (b % 64).toNat < 64)).1, Int.toNat_natCast, Nat.testBit_two_pow, e]
    congr 1
    rw [decide_eq_decide]
    omega
  · rw [if_neg e, decide_eq_false (by intro h; subst h; exact e rfl), Bool.or_false]
theorem acc_all (K : Int → Bool) : ∀ j : Nat, j ≤ 256 → Wf (accS K j) ∧ ∀ c : Int, 0 ≤ c → c < 256 → hasI (accS K j) c = (decide (c < j) && K c)
  | 0, _ => ⟨wf0, fun c h0 h1 => by rw [show accS K 0 = fun _ => 0 from rfl, hasI_0 h0 h1, decide_eq_false (by omega), Bool.false_and]⟩
  | j + 1, h => by
    obtain ⟨i1, i2⟩ := acc_all K j (by omega)
    cases hK : K (j : Int)
    · rw [accS_no hK]
      refine ⟨i1, fun c h0 h1 => ?_⟩
      rw [i2 c h0 h1]
      by_cases e : c = (j : Int)
      · subst e; rw [hK, Bool.and_false, Bool.and_false]
      · have : decide (c < (j : Int)) = decide (c < ((j + 1 : Nat) : Int)) := by rw [decide_eq_decide]; omega
        rw [this]
    · rw [accS_yes hK]
      refine ⟨wf_add i1 (by omega) (by omega), fun c h0 h1 => ?_⟩
      rw [hasI_add i1 (by omega) (by omega) h0 h1, i2 c h0 h1]
      by_cases e : c = (j : Int)
      · subst e; rw [hK]; simp; omega
      · have : decide (c < (j : Int)) = decide (c < ((j + 1 : Nat) : Int)) := by rw [decide_eq_decide]; omega
        rw [this, decide_eq_false e, Bool.or_false]
theorem wf_acc (K : Int → Bool) : Wf (accAll K) := (acc_all K 256 (by omega)).1
theorem hasI_acc (K : Int → Bool) {c : Int} (h0 : 0 ≤ c) (h1 : c < 256) : hasI (accAll K) c = K c := by
  rw [accAll, (acc_all K 256 (by omega)).2 c h0 h1, decide_eq_true (by omega), Bool.true_and]
end Go.Proofs.Ytjjnpobppmmgbaa
