/- Sets of bytes: the document's own Of, Not and Runs: contracts; which bytes are in what is made; the mathematics of runs. No conditions. Carried over from stage 1. -/
import Derived.Test.YtnfchlkdppblfaaDoorA
namespace Go.Proofs.YtnfchlkdppblfaaDoor
open Go.RowKit
/-- Four words of 64 bits. -/
def Wf (f : Nat → Int) : Prop := ∀ i, i < 4 → 0 ≤ f i ∧ f i < 18446744073709551616
theorem nat_of {x : Int} (h : 0 ≤ x ∧ x < 18446744073709551616) : ∃ n : Nat, x = (n : Int) ∧ n < 18446744073709551616 := ⟨x.toNat, by omega, by omega⟩
theorem and1_bit {x : Int} (h : 0 ≤ x ∧ x < 18446744073709551616) (k : Nat) : (bits .and .u64 (x / 2 ^ k) 1 == 1) = x.toNat.testBit k := by
  obtain ⟨n, rfl, hn⟩ := nat_of h
  have e1 : ((n : Int) / 2 ^ k) = ((n / 2 ^ k : Nat) : Int) := by simp
  have hl : n / 2 ^ k < 18446744073709551616 := Nat.lt_of_le_of_lt (Nat.div_le_self _ _) hn
  rw [e1, show (1 : Int) = ((1 : Nat) : Int) from rfl, u64_and_nat _ _ hl (by omega), Nat.and_one_is_mod, Int.toNat_natCast, Nat.testBit_eq_decide_div_mod_eq]
  rw [Bool.eq_iff_iff]; simp; omega
theorem or_bit {x y : Int} (hx : 0 ≤ x ∧ x < 18446744073709551616) (hy : 0 ≤ y ∧ y < 18446744073709551616) :
    (0 ≤ bits .or .u64 x y ∧ bits .or .u64 x y < 18446744073709551616) ∧ ∀ k, (bits .or .u64 x y).toNat.testBit k = (x.toNat.testBit k || y.toNat.testBit k) := by
  obtain ⟨n, rfl, hn⟩ := nat_of hx
  obtain ⟨m, rfl, hm⟩ := nat_of hy
  rw [u64_or_nat _ _ hn hm]
  have := Nat.or_lt_two_pow (n := 64) hn hm
  exact ⟨by omega, fun k => by simp⟩
theorem umax : IntKind.u64.max = ((18446744073709551615 : Nat) : Int) := by decide +kernel
theorem not_bit {x : Int} (hx : 0 ≤ x ∧ x < 18446744073709551616) :
    (0 ≤ bits .xor .u64 IntKind.u64.max x ∧ bits .xor .u64 IntKind.u64.max x < 18446744073709551616) ∧ ∀ k, (bits .xor .u64 IntKind.u64.max x).toNat.testBit k = (decide (k < 64) ^^ x.toNat.testBit k) := by
  obtain ⟨n, rfl, hn⟩ := nat_of hx
  rw [umax, u64_xor_nat _ _ (by omega) hn]
  have := Nat.xor_lt_two_pow (x := 18446744073709551615) (n := 64) (by omega) hn
  refine ⟨by omega, fun k => ?_⟩
  rw [Int.toNat_natCast, Nat.testBit_xor, show 18446744073709551615 = 2 ^ 64 - 1 from rfl, Nat.testBit_two_pow_sub_one, Int.toNat_natCast]
theorem pow_wrap {j : Nat} (h : j < 64) : IntKind.u64.wrap (2 ^ j) = ((2 ^ j : Nat) : Int) ∧ 2 ^ j < 18446744073709551616 := by
  have h1 : 2 ^ j < 2 ^ 64 := Nat.pow_lt_pow_right (by omega) h
  refine ⟨?_, h1⟩
  rw [IntKind.wrap_u64, show ((2 : Int) ^ j) = ((2 ^ j : Nat) : Int) from by simp]
  generalize 2 ^ j = m at *
  omega
theorem wordI_bit (K : Int → Bool) (i : Nat) : ∀ j, j ≤ 64 → (0 ≤ wordI K i j ∧ wordI K i j < 18446744073709551616) ∧ ∀ k, (wordI K i j).toNat.testBit k = (decide (k < j) && K ((i : Int) * 64 + (k : Int)))
  | 0, _ => ⟨by simp [wordI], fun k => by simp [wordI]⟩
  | j + 1, h => by
    obtain ⟨ih1, ih2⟩ := wordI_bit K i j (by omega)
    cases hK : K ((i : Int) * 64 + (j : Int))
    · rw [wordI_no hK]
      refine ⟨ih1, fun k => ?_⟩
      rw [ih2]
      by_cases e : k = j
      · subst e; simp [hK]
      · have : decide (k < j) = decide (k < j + 1) := by rw [decide_eq_decide]; omega
        rw [this]
    · rw [wordI_yes hK]
      obtain ⟨p1, p2⟩ := pow_wrap (j := j) (by omega)
      rw [p1]
      obtain ⟨o1, o2⟩ := or_bit ih1 (y := ((2 ^ j : Nat) : Int)) (by generalize 2 ^ j = m at *; omega)
      refine ⟨o1, fun k => ?_⟩
      rw [o2, ih2, Int.toNat_natCast, Nat.testBit_two_pow]
      by_cases e : j = k
      · subst e; simp [hK]
      · have : decide (k < j) = decide (k < j + 1) := by rw [decide_eq_decide]; omega
        rw [this]; simp [e]
theorem hasI_bit {f : Nat → Int} (hf : Wf f) {b : Int} (h0 : 0 ≤ b) (h1 : b < 256) : hasI f b = (f (b / 64).toNat).toNat.testBit (b % 64).toNat := by
  rw [hasI_in h0 h1, and1_bit (hf _ (by omega))]
theorem wf_byK (K : Int → Bool) : Wf (byK K) := fun i _ => (wordI_bit K i 64 (by omega)).1
theorem hasI_byK (K : Int → Bool) {b : Int} (h0 : 0 ≤ b) (h1 : b < 256) : hasI (byK K) b = K b := by
  rw [hasI_bit (wf_byK K) h0 h1]
  refine ((wordI_bit K _ 64 (by omega)).2 _).trans ?_
  rw [decide_eq_true (by omega : (b % 64).toNat < 64), Bool.true_and]
  congr 1; omega
theorem ext_word {f g : Nat → Int} (hf : Wf f) (hg : Wf g) (h : ∀ b : Int, 0 ≤ b → b < 256 → hasI f b = hasI g b) (i : Nat) (hi : i < 4) : f i = g i := by
  have e : (f i).toNat = (g i).toNat := by
    refine Nat.eq_of_testBit_eq fun k => ?_
    by_cases hk : k < 64
    · have := h ((i : Int) * 64 + (k : Int)) (by omega) (by omega)
      rw [hasI_bit hf (by omega) (by omega), hasI_bit hg (by omega) (by omega)] at this
      have e1 : (((i : Int) * 64 + (k : Int)) / 64).toNat = i := by omega
      have e2 : (((i : Int) * 64 + (k : Int)) % 64).toNat = k := by omega
      rw [e1, e2] at this; exact this
    · have l : ∀ x : Int, 0 ≤ x ∧ x < 18446744073709551616 → x.toNat.testBit k = false := fun x hx => by
        refine Nat.testBit_lt_two_pow ?_
        have h2 : 2 ^ 64 ≤ 2 ^ k := Nat.pow_le_pow_right (by omega) (by omega)
        have h3 : (2 : Nat) ^ 64 = 18446744073709551616 := rfl
        rw [h3] at h2
        generalize 2 ^ k = m at *
        omega
      rw [l _ (hf i hi), l _ (hg i hi)]
  have a := hf i hi
  have b := hg i hi
  omega
theorem ext_eqS {f g : Nat → Int} (hf : Wf f) (hg : Wf g) (h : ∀ b : Int, 0 ≤ b → b < 256 → hasI f b = hasI g b) : eqS f g = true := by
  have := ext_word hf hg h
  simp [eqS, this 0 (by omega), this 1 (by omega), this 2 (by omega), this 3 (by omega)]
/-- A set with the byte b. -/
def addS (f : Nat → Int) (b : Int) (i : Nat) : Int := if i = (b / 64).toNat then bits .or .u64 (f (b / 64).toNat) (IntKind.u64.wrap (2 ^ (b % 64).toNat)) else f i
theorem row_set (f : Nat → Int) (i : Nat) (hi : i < 4) (x : Int) : (row4 f).setIfInBounds i (.int .u64 x) = row4 fun j => if j = i then x else f j := by
  match i, hi with
  | 0, _ => simp
  | 1, _ => simp
  | 2, _ => simp
  | 3, _ => simp
set_option maxHeartbeats 400000 in
theorem add_any (f : Nat → Int) (b : Int) (h0 : 0 ≤ b) (h1 : b < 256) (w : World) :
    Calls Tryd.prog 40 #[SV f, .int .i64 b] w fun e w' => e = .returned (SV (addS f b)) ∧ Below w.heap.size w w' := by
  have hq : 0 ≤ b / 64 := by omega
  have hq4 : b / 64 < 4 := by omega
  have hr : 0 ≤ b % 64 := by omega
  go_enter Tryd.func40, Tryd.ntmps40
  go_wp2
  have HP := Lib.hid (heap_alloc2_old w (.cells (row4 f) 25 (0, 0)) (.cells (row4 fun _ => 0) 25 (0, 0)))
  have HQ := Lib.hid (heap_alloc2_new w (.cells (row4 f) 25 (0, 0)) (.cells (row4 fun _ => 0) 25 (0, 0)))
  have hB : Below w.heap.size w ((w.alloc (.cells (row4 f) 25 (0, 0))).alloc (.cells (row4 fun _ => 0) 25 (0, 0))) := ((Below.refl _ _).alloc (Nat.le_refl _) _).alloc (by simp) _
  generalize (w.alloc (.cells (row4 f) 25 (0, 0))).alloc (.cells (row4 fun _ => 0) 25 (0, 0)) = w2 at *
  have cp := cell4 HP.out (b / 64).toNat (by omega)
  have fp := frozen_of_row _ _ (b / 64).toNat _ _ HP.out
  have HS : Hid ((w2.setCell ⟨w.heap.size, (b / 64).toNat, none⟩ (.int .u64 (bits .or .u64 (f (b / 64).toNat) (IntKind.u64.wrap (2 ^ (b % 64).toNat))))).heap[w.heap.size]? = some (.cells (row4 (addS f b)) 25 (0, 0))) :=
    Lib.hid ((heap_setCell_same w2 _ _ _ _ _ HP.out).trans (by rw [row_set f _ (by omega)]; rfl))
  have HT := Lib.hid ((heap_setCell_other w2 ⟨w.heap.size, (b / 64).toNat, none⟩ (w.heap.size + 1) (.int .u64 (bits .or .u64 (f (b / 64).toNat) (IntKind.u64.wrap (2 ^ (b % 64).toNat)))) (by dsimp only; omega)).trans HQ.out)
  have hB2 := Lib.hid (hB.setCell (p := ⟨w.heap.size, (b / 64).toNat, none⟩) (Nat.le_refl _) (.int .u64 (bits .or .u64 (f (b / 64).toNat) (IntKind.u64.wrap (2 ^ (b % 64).toNat)))))
  go_region
  clear cp fp hB HP HQ
  generalize w2.setCell ⟨w.heap.size, (b / 64).toNat, none⟩ (.int .u64 (bits .or .u64 (f (b / 64).toNat) (IntKind.u64.wrap (2 ^ (b % 64).toNat)))) = w3 at *
  have c0 := cell4 HS.out 0 (by omega)
  have c1 := cell4 HS.out 1 (by omega)
  have c2 := cell4 HS.out 2 (by omega)
  have c3 := cell4 HS.out 3 (by omega)
  have d0 := cell4 HT.out 0 (by omega)
  have d1 := cell4 HT.out 1 (by omega)
  have d2 := cell4 HT.out 2 (by omega)
  have d3 := cell4 HT.out 3 (by omega)
  have f0 := frozen_of_row _ _ 0 _ _ HT.out
  have f1 := frozen_of_row _ _ 1 _ _ HT.out
  have f2 := frozen_of_row _ _ 2 _ _ HT.out
  have f3 := frozen_of_row _ _ 3 _ _ HT.out
  have HR := Lib.hid (stored4 (addS f b) HT.out)
  go_wp2
  refine bodyPost_ret (v := SV (addS f b)) (ret4 Tryd.results40 rfl (by exact HR.out)) rfl ⟨rfl, ?_⟩
  exact ((((hB2.out.setCell (by simp) _).setCell (by simp) _).setCell (by simp) _).setCell (by simp) _).drew
/-- The set of the bytes below j for which K says yes, byte by byte. -/
def accS (K : Int → Bool) : Nat → Nat → Int
  | 0 => fun _ => 0
  | j + 1 => if K (j : Int) then addS (accS K j) (j : Int) else accS K j
theorem accS_yes {K : Int → Bool} {j : Nat} (h : K (j : Int) = true) : accS K (j + 1) = addS (accS K j) (j : Int) := by
  show (if _ then _ else _) = _; rw [h]; rfl
theorem accS_no {K : Int → Bool} {j : Nat} (h : K (j : Int) = false) : accS K (j + 1) = accS K j := by
  show (if _ then _ else _) = _; rw [h]; rfl
def accAll (K : Int → Bool) : Nat → Int := accS K 256
/-- The world behind a set's being stored in block g. -/
abbrev put4 (w : World) (g : Nat) (f : Nat → Int) : World := (((w.setCell ⟨g, 0, none⟩ (.int .u64 (f 0))).setCell ⟨g, 1, none⟩ (.int .u64 (f 1))).setCell ⟨g, 2, none⟩ (.int .u64 (f 2))).setCell ⟨g, 3, none⟩ (.int .u64 (f 3))
theorem put4_other (w : World) (g k : Nat) (f : Nat → Int) (h : k ≠ g) : (put4 w g f).heap[k]? = w.heap[k]? := by
  rw [heap_setCell_other _ _ _ _ h, heap_setCell_other _ _ _ _ h, heap_setCell_other _ _ _ _ h, heap_setCell_other _ _ _ _ h]
theorem put4_below {w0 w : World} {B g : Nat} (f : Nat → Int) (h : Below B w0 w) (hg : B ≤ g) : Below B w0 (put4 w g f) :=
  (((h.setCell hg _).setCell hg _).setCell hg _).setCell hg _
theorem put4_size (w : World) (g : Nat) (f : Nat → Int) : (put4 w g f).heap.size = w.heap.size := by simp
set_option maxRecDepth 100000 in
set_option maxHeartbeats 1000000 in
theorem refof_any (x y : Int) (w : World) :
    Calls Tryd.prog 16 #[.int .i64 x, .int .i64 y] w fun e w' => e = .returned (SV (accAll (ofK x y))) ∧ Below w.heap.size w w' := by
  go_enter Tryd.func16, Tryd.ntmps16
  go_wp2
  go_loopw [6] (fun c wr => ∃ j : Nat, j ≤ 256 ∧ c = .int .i64 j ∧ wr.heap[w.heap.size]? = some (.cells (row4 fun _ => 0) 25 (0, 0)) ∧ wr.heap[w.heap.size + 1]? = some (.cells (row4 (accS (ofK x y) j)) 25 (0, 0)) ∧ w.heap.size + 2 ≤ wr.heap.size ∧ Below w.heap.size w wr) (fun c _ => 256 - (intOf c).toNat)
  case atStart => exact ⟨0, by omega, rfl, heap_alloc2_old _ _ _, heap_alloc2_new _ _ _, by simp, ((Below.refl _ _).alloc (Nat.le_refl _) _).alloc (by simp) _⟩
  case round =>
    obtain ⟨j, hj, rfl, hr, hs, hl, hb⟩ := hrel
    by_cases hlt : j < 256
    · have HR := Lib.hid hr
      have HS := Lib.hid hs
      by_cases hxj : x ≤ (j : Int)
      · by_cases hyj : (j : Int) ≤ y
        · have HK := Lib.hid (accS_yes (K := ofK x y) (j := j) (by simp [ofK, hxj, hyj]))
          have c0 := cell4 hs 0 (by omega)
          have c1 := cell4 hs 1 (by omega)
          have c2 := cell4 hs 2 (by omega)
          have c3 := cell4 hs 3 (by omega)
          clear hr hs
          go_wp2_with fail
          refine (add_any (accS (ofK x y) j) (j : Int) (by omega) (by omega) _).mono ?_
          rintro e w1 ⟨rfl, hb1⟩
          have hs1 := (hb1.block (w.heap.size + 1) (by omega)).trans HS.out
          have HR1 := Lib.hid ((hb1.block w.heap.size (by omega)).trans HR.out)
          have hB1 : Below w.heap.size w w1 := hb.trans (hb1.mono hb.size)
          have hl1 : w.heap.size + 2 ≤ w1.heap.size := Nat.le_trans hl hb1.size
          clear c0 c1 c2 c3 hb hl hb1 HR HS
          have d0 := cell4 hs1 0 (by omega)
          have d1 := cell4 hs1 1 (by omega)
          have d2 := cell4 hs1 2 (by omega)
          have d3 := cell4 hs1 3 (by omega)
          have f0 := frozen_of_row _ _ 0 _ _ hs1
          have f1 := frozen_of_row _ _ 1 _ _ hs1
          have f2 := frozen_of_row _ _ 2 _ _ hs1
          have f3 := frozen_of_row _ _ 3 _ _ hs1
          have HS1 := Lib.hid hs1
          clear hs1
          go_wp2
          go_roundw
          case rel => exact ⟨j + 1, by omega, by go_num, (put4_other w1 _ _ _ (by omega)).trans HR1.out, by rw [HK.out]; exact stored4 _ HS1.out, by rw [put4_size]; exact hl1, put4_below _ hB1 (by omega)⟩
          case measure => simp [intOf]; omega
        · have HK := Lib.hid (accS_no (K := ofK x y) (j := j) (by simp [ofK]; omega))
          clear hr hs
          go_wp2
          go_roundw
          case rel => exact ⟨j + 1, by omega, by go_num, HR.out, by rw [HK.out]; exact HS.out, hl, hb⟩
          case measure => simp [intOf]; omega
      · have HK := Lib.hid (accS_no (K := ofK x y) (j := j) (by simp [ofK]; omega))
        clear hr hs
        go_wp2
        go_roundw
        case rel => exact ⟨j + 1, by omega, by go_num, HR.out, by rw [HK.out]; exact HS.out, hl, hb⟩
        case measure => simp [intOf]; omega
    · obtain rfl : j = 256 := by omega
      have c0 := cell4 hs 0 (by omega)
      have c1 := cell4 hs 1 (by omega)
      have c2 := cell4 hs 2 (by omega)
      have c3 := cell4 hs 3 (by omega)
      have d0 := cell4 hr 0 (by omega)
      have d1 := cell4 hr 1 (by omega)
      have d2 := cell4 hr 2 (by omega)
      have d3 := cell4 hr 3 (by omega)
      have f0 := frozen_of_row _ _ 0 _ _ hr
      have f1 := frozen_of_row _ _ 1 _ _ hr
      have f2 := frozen_of_row _ _ 2 _ _ hr
      have f3 := frozen_of_row _ _ 3 _ _ hr
      have HR := Lib.hid (stored4 (accS (ofK x y) 256) hr)
      clear hr hs
      go_wp2
      refine bodyPost_ret (v := SV (accAll (ofK x y))) (ret4 Tryd.results16 rfl HR.out) rfl ⟨rfl, ?_⟩
      exact put4_below (accS (ofK x y) 256) hb (Nat.le_refl _)
theorem heap_alloc4_a (w : World) (A B C D : Obj) : ((((w.alloc A).alloc B).alloc C).alloc D).heap[w.heap.size]? = some A := by
  rw [Below.heap_alloc _ _ _ (by simp; omega)]; exact heap_alloc3_a _ _ _ _
theorem heap_alloc4_b (w : World) (A B C D : Obj) : ((((w.alloc A).alloc B).alloc C).alloc D).heap[w.heap.size + 1]? = some B := by
  rw [Below.heap_alloc _ _ _ (by simp)]; exact heap_alloc3_b _ _ _ _
theorem heap_alloc4_c (w : World) (A B C D : Obj) : ((((w.alloc A).alloc B).alloc C).alloc D).heap[w.heap.size + 2]? = some C := by
  rw [Below.heap_alloc _ _ _ (by simp)]; exact heap_alloc3_c _ _ _ _
theorem heap_alloc4_d (w : World) (A B C D : Obj) : ((((w.alloc A).alloc B).alloc C).alloc D).heap[w.heap.size + 3]? = some D := by
  have := heap_alloc_new (((w.alloc A).alloc B).alloc C) D
  simpa using this
theorem below_alloc3 (w : World) (A B C : Obj) : Below w.heap.size w (((w.alloc A).alloc B).alloc C) :=
  (((Below.refl _ _).alloc (Nat.le_refl _) _).alloc (by simp) _).alloc (by simp; omega) _
theorem below_alloc4 (w : World) (A B C D : Obj) : Below w.heap.size w ((((w.alloc A).alloc B).alloc C).alloc D) :=
  (below_alloc3 w A B C).alloc (by simp; omega) _
set_option maxRecDepth 100000 in
set_option maxHeartbeats 4000000 in
theorem refnot_any (f : Nat → Int) (w : World) :
    Calls Tryd.prog 60 #[SV f] w fun e w' => e = .returned (SV (accAll (fun b => !hasI f b))) ∧ Below w.heap.size w w' := by
  go_enter Tryd.func60, Tryd.ntmps60
  go_wp2
  go_loopw [4] (fun c wr => ∃ j : Nat, j ≤ 256 ∧ c = .int .i64 j ∧ wr.heap[w.heap.size]? = some (.cells (row4 f) 25 (0, 0)) ∧ wr.heap[w.heap.size + 1]? = some (.cells (row4 fun _ => 0) 25 (0, 0)) ∧ wr.heap[w.heap.size + 2]? = some (.cells (row4 (accS (fun b => !hasI f b) j)) 25 (0, 0)) ∧ w.heap.size + 3 ≤ wr.heap.size ∧ Below w.heap.size w wr) (fun c _ => 256 - (intOf c).toNat)
  case atStart => exact ⟨0, by omega, rfl, heap_alloc3_a _ _ _ _, heap_alloc3_b _ _ _ _, heap_alloc3_c _ _ _ _, by simp, below_alloc3 _ _ _ _⟩
  case round =>
    obtain ⟨j, hj, rfl, h0, h1, h2, hl, hb⟩ := hrel
    by_cases hlt : j < 256
    · have H0 := Lib.hid h0
      have H1 := Lib.hid h1
      have H2 := Lib.hid h2
      clear h0 h1 h2
      cases hx : hasI f (j : Int)
      · skip
        have HK := Lib.hid (accS_yes (K := fun b => !hasI f b) (j := j) (by simp [hx]))
        have c0 := cell4 H0.out 0 (by omega)
        have c1 := cell4 H0.out 1 (by omega)
        have c2 := cell4 H0.out 2 (by omega)
        have c3 := cell4 H0.out 3 (by omega)
        go_wp2_with fail
        refine (refhas_any f (j : Int) _).mono ?_
        rintro e w1 ⟨rfl, hc1⟩
        clear c0 c1 c2 c3
        have H0q1 := Lib.hid ((hc1.block (w.heap.size) (by omega)).trans H0.out)
        have H1q1 := Lib.hid ((hc1.block (w.heap.size + 1) (by omega)).trans H1.out)
        have H2q1 := Lib.hid ((hc1.block (w.heap.size + 2) (by omega)).trans H2.out)
        have hbq1 : Below w.heap.size w w1 := hb.trans (hc1.mono hb.size)
        have hlq1 : w.heap.size + 3 ≤ w1.heap.size := Nat.le_trans hl hc1.size
        clear H0 H1 H2 hb hl hc1
        have c0 := cell4 H2q1.out 0 (by omega)
        have c1 := cell4 H2q1.out 1 (by omega)
        have c2 := cell4 H2q1.out 2 (by omega)
        have c3 := cell4 H2q1.out 3 (by omega)
        go_wp2_with fail
        refine (add_any (accS (fun b => !hasI f b) j) (j : Int) (by omega) (by omega) _).mono ?_
        rintro e w2 ⟨rfl, hc2⟩
        clear c0 c1 c2 c3
        have H0q2 := Lib.hid ((hc2.block (w.heap.size) (by omega)).trans H0q1.out)
        have H1q2 := Lib.hid ((hc2.block (w.heap.size + 1) (by omega)).trans H1q1.out)
        have H2q2 := Lib.hid ((hc2.block (w.heap.size + 2) (by omega)).trans H2q1.out)
        have hbq2 : Below w.heap.size w w2 := hbq1.trans (hc2.mono hbq1.size)
        have hlq2 : w.heap.size + 3 ≤ w2.heap.size := Nat.le_trans hlq1 hc2.size
        clear H0q1 H1q1 H2q1 hbq1 hlq1 hc2
        have c0 := cell4 H2q2.out 0 (by omega)
        have c1 := cell4 H2q2.out 1 (by omega)
        have c2 := cell4 H2q2.out 2 (by omega)
        have c3 := cell4 H2q2.out 3 (by omega)
        have f0 := frozen_of_row _ _ 0 _ _ H2q2.out
        have f1 := frozen_of_row _ _ 1 _ _ H2q2.out
        have f2 := frozen_of_row _ _ 2 _ _ H2q2.out
        have f3 := frozen_of_row _ _ 3 _ _ H2q2.out
        go_wp2
        go_roundw
        case rel => exact ⟨j + 1, by omega, by go_num, (put4_other w2 _ _ _ (by omega)).trans H0q2.out, (put4_other w2 _ _ _ (by omega)).trans H1q2.out, by rw [HK.out]; exact stored4 _ H2q2.out, by rw [put4_size]; exact hlq2, put4_below _ hbq2 (by omega)⟩
        case measure => simp [intOf]; omega
      · skip
        have HK := Lib.hid (accS_no (K := fun b => !hasI f b) (j := j) (by simp [hx]))
        have c0 := cell4 H0.out 0 (by omega)
        have c1 := cell4 H0.out 1 (by omega)
        have c2 := cell4 H0.out 2 (by omega)
        have c3 := cell4 H0.out 3 (by omega)
        go_wp2_with fail
        refine (refhas_any f (j : Int) _).mono ?_
        rintro e w1 ⟨rfl, hc1⟩
        clear c0 c1 c2 c3
        have H0q1 := Lib.hid ((hc1.block (w.heap.size) (by omega)).trans H0.out)
        have H1q1 := Lib.hid ((hc1.block (w.heap.size + 1) (by omega)).trans H1.out)
        have H2q1 := Lib.hid ((hc1.block (w.heap.size + 2) (by omega)).trans H2.out)
        have hbq1 : Below w.heap.size w w1 := hb.trans (hc1.mono hb.size)
        have hlq1 : w.heap.size + 3 ≤ w1.heap.size := Nat.le_trans hl hc1.size
        clear H0 H1 H2 hb hl hc1
        go_wp2
        go_roundw
        case rel => exact ⟨j + 1, by omega, by go_num, H0q1.out, H1q1.out, by rw [HK.out]; exact H2q1.out, hlq1, hbq1⟩
        case measure => simp [intOf]; omega
    · obtain rfl : j = 256 := by omega
      have c0 := cell4 h2 0 (by omega)
      have c1 := cell4 h2 1 (by omega)
      have c2 := cell4 h2 2 (by omega)
      have c3 := cell4 h2 3 (by omega)
      have d0 := cell4 h1 0 (by omega)
      have d1 := cell4 h1 1 (by omega)
      have d2 := cell4 h1 2 (by omega)
      have d3 := cell4 h1 3 (by omega)
      have f0 := frozen_of_row _ _ 0 _ _ h1
      have f1 := frozen_of_row _ _ 1 _ _ h1
      have f2 := frozen_of_row _ _ 2 _ _ h1
      have f3 := frozen_of_row _ _ 3 _ _ h1
      have HR := Lib.hid (stored4 (accS (fun b => !hasI f b) 256) h1)
      clear h0 h1 h2
      go_wp2
      refine bodyPost_ret (v := SV (accAll (fun b => !hasI f b))) (ret4 Tryd.results60 rfl HR.out) rfl ⟨rfl, ?_⟩
      exact put4_below (accS (fun b => !hasI f b) 256) hb (by omega)
theorem wf0 : Wf fun _ => 0 := fun _ _ => by simp
theorem hasI_0 {b : Int} (h0 : 0 ≤ b) (h1 : b < 256) : hasI (fun _ => 0) b = false := by
  rw [hasI_bit wf0 h0 h1]; simp
theorem pow_ok (k : Nat) (h : k < 64) : 0 ≤ IntKind.u64.wrap (2 ^ k) ∧ IntKind.u64.wrap (2 ^ k) < 18446744073709551616 := by
  obtain ⟨p1, p2⟩ := pow_wrap h
  rw [p1]
  generalize 2 ^ k = m at *
  omega
theorem wf_add {f : Nat → Int} (hf : Wf f) {b : Int} (_h0 : 0 ≤ b) (_h1 : b < 256) : Wf (addS f b) := by
  intro i hi
  unfold addS
  by_cases e : i = (b / 64).toNat
  · rw [if_pos e]; exact (or_bit (hf _ (by omega)) (pow_ok _ (by omega))).1
  · rw [if_neg e]; exact hf i hi
theorem hasI_add {f : Nat → Int} (hf : Wf f) {b c : Int} (h0 : 0 ≤ b) (h1 : b < 256) (g0 : 0 ≤ c) (g1 : c < 256) : hasI (addS f b) c = (hasI f c || decide (c = b)) := by
  rw [hasI_bit (wf_add hf h0 h1) g0 g1, hasI_bit hf g0 g1]
  unfold addS
  by_cases e : (c / 64).toNat = (b / 64).toNat
  · rw [if_pos e, (or_bit (hf _ (by omega)) (pow_ok _ (by omega))).2, (pow_wrap (by omega : (b % 64).toNat < 64)).1, Int.toNat_natCast, Nat.testBit_two_pow, e]
    congr 1
    rw [decide_eq_decide]
    omega
  · rw [if_neg e, decide_eq_false (by intro h; subst h; exact e rfl), Bool.or_false]
theorem acc_all (K : Int → Bool) : ∀ j : Nat, j ≤ 256 → Wf (accS K j) ∧ ∀ c : Int, 0 ≤ c → c < 256 → hasI (accS K j) c = (decide (c < j) && K c)
  | 0, _ => ⟨wf0, fun c h0 h1 => by rw [show accS K 0 = fun _ => 0 from rfl, hasI_0 h0 h1, decide_eq_false (by omega), Bool.false_and]⟩
  | j + 1, h => by
    obtain ⟨i1, i2⟩ := acc_all K j (by omega)
    cases hK : K (j : Int)
    · rw [accS_no hK]
      refine ⟨i1, fun c h0 h1 => ?_⟩
      rw [i2 c h0 h1]
      by_cases e : c = (j : Int)
      · subst e; rw [hK, Bool.and_false, Bool.and_false]
      · have : decide (c < (j : Int)) = decide (c < ((j + 1 : Nat) : Int)) := by rw [decide_eq_decide]; omega
        rw [this]
    · rw [accS_yes hK]
      refine ⟨wf_add i1 (by omega) (by omega), fun c h0 h1 => ?_⟩
      rw [hasI_add i1 (by omega) (by omega) h0 h1, i2 c h0 h1]
      by_cases e : c = (j : Int)
      · subst e; rw [hK]; simp; omega
      · have : decide (c < (j : Int)) = decide (c < ((j + 1 : Nat) : Int)) := by rw [decide_eq_decide]; omega
        rw [this, decide_eq_false e, Bool.or_false]
theorem wf_acc (K : Int → Bool) : Wf (accAll K) := (acc_all K 256 (by omega)).1
theorem hasI_acc (K : Int → Bool) {c : Int} (h0 : 0 ≤ c) (h1 : c < 256) : hasI (accAll K) c = K c := by
  rw [accAll, (acc_all K 256 (by omega)).2 c h0 h1, decide_eq_true (by omega), Bool.true_and]
theorem eq_of (x y : Int) : eqS (byK (ofK x y)) (accAll (ofK x y)) = true :=
  ext_eqS (wf_byK _) (wf_acc _) fun b h0 h1 => by rw [hasI_byK _ h0 h1, hasI_acc _ h0 h1]
set_option maxRecDepth 100000 in
set_option maxHeartbeats 400000 in
theorem refruns_any (f : Nat → Int) (w : World) : Calls Tryd.prog 86 #[SV f] w (GivesRuns w (runsN f) (runsS f)) := by
  obtain ⟨i0, hi, hz0, hz1, hz2⟩ := info_parts info39
  have HM : Hid (hasI f (-1) = false) := Lib.hid (hasI_out (by omega))
  go_enter Tryd.func86, Tryd.ntmps86
  go_wp2
  go_loopw [3, 4] (fun v i wr => ∃ j : Nat, j ≤ 256 ∧ i = .int .i64 j ∧ wr.ownsRow (w.heap.size + 1) 123 2 v (cntR (hasI f) j) ((flatR (hasI f) j).map (Value.int .i64)) ∧ wr.heap[w.heap.size]? = some (.cells (row4 f) 25 (0, 0)) ∧ w.heap.size + 1 ≤ wr.heap.size ∧ Below w.heap.size w wr) (fun _ i _ => 256 - (intOf i).toNat)
  case atStart => exact ⟨0, by omega, rfl, World.ownsRow_nil _ _ _ _, heap_alloc_new _ _, by simp, (Below.refl _ _).alloc (Nat.le_refl _) _⟩
  case round =>
    obtain ⟨j, hj, rfl, hown, hc, hs, hb⟩ := hrel
    by_cases hlt : j < 256
    · have HC := Lib.hid hc
      have c0 := cell4 hc 0 (by omega)
      have c1 := cell4 hc 1 (by omega)
      have c2 := cell4 hc 2 (by omega)
      have c3 := cell4 hc 3 (by omega)
      have hlen := cntR_le (hasI f) j
      clear hc
      go_wp2_with fail
      refine (refhas_any f (j : Int) _).mono ?_
      rintro e w1 ⟨rfl, hb1⟩
      have hown1 := ownsRow_below hown hb1
      have hB1 : Below w.heap.size w w1 := hb.trans (hb1.mono hb.size)
      have HC1 := Lib.hid ((hb1.block _ (by omega)).trans HC.out)
      have hs1 : w.heap.size + 1 ≤ w1.heap.size := Nat.le_trans hs hb1.size
      clear c0 c1 c2 c3 hown hb hs hb1 HC
      cases hK : hasI f (j : Int)
      · have HK := Lib.hid (flatR_no hK); clear hK
        go_wp2
        go_roundw
        case rel => exact ⟨j + 1, by omega, by go_num, by rw [HK.out.1, HK.out.2]; exact hown1, HC1.out, hs1, hB1⟩
        case measure => simp [intOf]; omega
      · have HK0 := Lib.hid hK; clear hK
        have c0 := cell4 HC1.out 0 (by omega)
        have c1 := cell4 HC1.out 1 (by omega)
        have c2 := cell4 HC1.out 2 (by omega)
        have c3 := cell4 HC1.out 3 (by omega)
        by_cases hj0 : j = 0
        · have hjn : (j : Int) ≤ 0 := by omega
          have HJ0 := Lib.hid hj0
          clear c0 c1 c2 c3 hj0
          have HK := Lib.hid (flatR_new HK0.out (by rw [HJ0.out]; exact HM.out))
          go_wp2_with (first | (at_builtin; refine wpList_append_own _ rfl _ _ 121 rfl (w.heap.size + 1) 123 i0 (.agg #[.int .i64 0, .int .i64 0]) 2 16 Tryd.underlying121 hi hz0 hz1 hz2 rfl (by decide) _ _ _ rfl (hown1.alloc _) ⟨w1.heap.size, 0, none⟩ 1 1 [.int .i64 (j : Int), .int .i64 (j : Int)] rfl rfl ?z1 ?z2 ?z3 ?z4 ?z5 ?_))
          case z1 => exact World.news_of_block (cs := #[.int .i64 (j : Int), .int .i64 (j : Int)]) (t := 123) (fr := (0, 0)) (heap_alloc_new _ _)
          case z2 => intro u hu; simp at hu; subst hu; rfl
          case z3 => unfold maxLen; omega
          case z4 => omega
          case z5 => simp; omega
          · intro v' w3 hown3 hgrow _
            have hB3 : Below w.heap.size w w3 := (hB1.alloc (by omega) _).grown hgrow (by simp; omega) (fun k hk => by have := own_ge hown1 k hk; omega)
            have HC3 := Lib.hid ((hgrow.block w.heap.size (by simp; omega) (fun e => by have := own_ge hown1 _ e.symm; omega)).trans ((Below.heap_alloc _ _ _ (by omega)).trans HC1.out))
            have hs3 : w.heap.size + 1 ≤ w3.heap.size := by have := hgrow.size; simp at this; omega
            clear hgrow hown1 hB1 HC1 hs1
            go_wp2
            go_roundw
            case rel => exact ⟨j + 1, by omega, by go_num, by rw [HK.out.1, HK.out.2]; simpa using hown3, HC3.out, hs3, hB3⟩
            case measure => simp [intOf]; omega
        · have hjp : (0 : Int) < (j : Int) := by omega
          go_wp2_with fail
          refine (refhas_any f ((j : Int) - 1) _).mono ?_
          rintro e w2 ⟨rfl, hb1⟩
          have hown2 := ownsRow_below hown1 hb1
          have hB2 : Below w.heap.size w w2 := hB1.trans (hb1.mono hB1.size)
          have HC2 := Lib.hid ((hb1.block _ (by omega)).trans HC1.out)
          have hs2 : w.heap.size + 1 ≤ w2.heap.size := Nat.le_trans hs1 hb1.size
          clear c0 c1 c2 c3 hown1 hB1 hs1 hb1 HC1
          cases hK' : hasI f ((j : Int) - 1)
          · have HK := Lib.hid (flatR_new HK0.out hK'); clear hK'
            go_wp2_with (first | (at_builtin; refine wpList_append_own _ rfl _ _ 121 rfl (w.heap.size + 1) 123 i0 (.agg #[.int .i64 0, .int .i64 0]) 2 16 Tryd.underlying121 hi hz0 hz1 hz2 rfl (by decide) _ _ _ rfl (hown2.alloc _) ⟨w2.heap.size, 0, none⟩ 1 1 [.int .i64 (j : Int), .int .i64 (j : Int)] rfl rfl ?c1 ?c2 ?c3 ?c4 ?c5 ?_))
            case c1 => exact World.news_of_block (cs := #[.int .i64 (j : Int), .int .i64 (j : Int)]) (t := 123) (fr := (0, 0)) (heap_alloc_new _ _)
            case c2 => intro u hu; simp at hu; subst hu; rfl
            case c3 => unfold maxLen; omega
            case c4 => omega
            case c5 => simp; omega
            · intro v' w3 hown3 hgrow _
              have hB3 : Below w.heap.size w w3 := (hB2.alloc (by omega) _).grown hgrow (by simp; omega) (fun k hk => by have := own_ge hown2 k hk; omega)
              have HC3 := Lib.hid ((hgrow.block w.heap.size (by simp; omega) (fun e => by have := own_ge hown2 _ e.symm; omega)).trans ((Below.heap_alloc _ _ _ (by omega)).trans HC2.out))
              have hs3 : w.heap.size + 1 ≤ w3.heap.size := by have := hgrow.size; simp at this; omega
              clear hgrow hown2 hB2 HC2 hs2
              go_wp2
              go_roundw
              case rel => exact ⟨j + 1, by omega, by go_num, by rw [HK.out.1, HK.out.2]; simpa using hown3, HC3.out, hs3, hB3⟩
              case measure => simp [intOf]; omega
          · have HK := Lib.hid (flatR_on HK0.out hK')
            have hpos := cntR_pos HM.out hK'
            clear hK'
            obtain ⟨hl, ⟨_, h0⟩ | ⟨g, cap, cur, hv, hg, hh, h1, h2, h3, h4⟩⟩ := hown2
            · omega
            · obtain ⟨m, hm⟩ : ∃ m, cntR (hasI f) j = m + 1 := ⟨cntR (hasI f) j - 1, by omega⟩
              rw [hm] at hl hv h1 h4
              have HM1 := Lib.hid hm
              have HH := Lib.hid hh
              have H3 := Lib.hid h3
              have H4 := Lib.hid h4
              have HL := Lib.hid hl
              have hcx : ∃ y, w2.cell? ⟨g, m * 2 + 1, none⟩ = some y := by
                rw [cell_of_row w2 g _ _ _ _ hh]
                exact ⟨_, Array.getElem?_eq_getElem (by omega)⟩
              obtain ⟨y, hcy⟩ := hcx
              have hfz := frozen_of_row w2 g (m * 2 + 1) _ _ hh
              have hm256 : m < 256 := by omega
              rw [hv]
              clear hm hh h3 h4 hl hv hpos hlen
              go_wp2
              go_roundw
              case rel =>
                refine ⟨j + 1, by omega, by go_num, ?_, ?_, by simp; omega, hB2.setCell (by dsimp only; omega) _⟩
                · rw [HK.out.1, HK.out.2, HM1.out]
                  exact own_last HL.out hg HH.out h1 h2 H3.out H4.out
                · rw [heap_setCell_other _ _ _ _ (by dsimp only; omega)]; exact HC2.out
              case measure => simp [intOf]; omega
    · obtain rfl : j = 256 := by omega
      go_wp2
      go_ret
      exact ⟨_, rfl, ownsRow_base hown (by omega), hb⟩
/-- A run's first and last number, out of the flat list. -/
def lo (l : List Int) (i : Nat) : Int := l.getD (i * 2) 0
def hi (l : List Int) (i : Nat) : Int := l.getD (i * 2 + 1) 0
/-- How many numbers the first i runs hold. -/
def sumN (l : List Int) : Nat → Int
  | 0 => 0
  | i + 1 => sumN l i + hi l i - lo l i + 1
theorem getD_new {l : List Int} {x y : Int} {k : Nat} : (l ++ [x, y]).getD k 0 = if k < l.length then l.getD k 0 else if k = l.length then x else if k = l.length + 1 then y else 0 := by
  rw [List.getD_eq_getElem?_getD, List.getD_eq_getElem?_getD]
  by_cases h : k < l.length
  · rw [if_pos h, List.getElem?_append_left h]
  · rw [if_neg h, List.getElem?_append_right (by omega)]
    by_cases e : k = l.length
    · rw [if_pos e, e]; simp
    · rw [if_neg e]
      by_cases e2 : k = l.length + 1
      · rw [if_pos e2, e2]; simp
      · rw [if_neg e2, List.getElem?_eq_none (by simp; omega)]; rfl
theorem getD_on {l : List Int} {x : Int} {k : Nat} (hl : 0 < l.length) : (l.dropLast ++ [x]).getD k 0 = if k + 1 < l.length then l.getD k 0 else if k + 1 = l.length then x else 0 := by
  rw [List.getD_eq_getElem?_getD, List.getD_eq_getElem?_getD]
  by_cases h : k + 1 < l.length
  · rw [if_pos h, List.getElem?_append_left (by simp; omega), List.getElem?_dropLast, if_pos (by omega)]
  · rw [if_neg h, List.getElem?_append_right (by simp; omega)]
    by_cases e : k + 1 = l.length
    · rw [if_pos e]; simp; rw [show k - (l.length - 1) = 0 from by omega]; rfl
    · rw [if_neg e, List.getElem?_eq_none (by simp; omega)]; rfl
theorem sumN_congr {l l' : List Int} : ∀ n : Nat, (∀ i, i < n → lo l i = lo l' i ∧ hi l i = hi l' i) → sumN l n = sumN l' n
  | 0, _ => rfl
  | n + 1, h => by
    have ih := sumN_congr n fun i hi => h i (by omega)
    have e := h n (by omega)
    show sumN l n + hi l n - lo l n + 1 = sumN l' n + hi l' n - lo l' n + 1
    rw [ih, e.1, e.2]
/-- What holds of the runs of the numbers below j. -/
structure Rn (K : Int → Bool) (j : Nat) : Prop where
  len : (flatR K j).length = cntR K j * 2
  ok : ∀ i, i < cntR K j → 0 ≤ lo (flatR K j) i ∧ lo (flatR K j) i ≤ hi (flatR K j) i ∧ hi (flatR K j) i < j
  far : ∀ i, i + 1 < cntR K j → hi (flatR K j) i + 1 < lo (flatR K j) (i + 1)
  has : ∀ b : Int, 0 ≤ b → b < j → (K b = true ↔ ∃ i, i < cntR K j ∧ lo (flatR K j) i ≤ b ∧ b ≤ hi (flatR K j) i)
  last : 0 < cntR K j → K ((j : Int) - 1) = true → hi (flatR K j) (cntR K j - 1) = (j : Int) - 1
  gap : 0 < cntR K j → K ((j : Int) - 1) = false → hi (flatR K j) (cntR K j - 1) < (j : Int) - 1
  sum : sumN (flatR K j) (cntR K j) = (listI K j).length
theorem rn_all {K : Int → Bool} (hK : K (-1) = false) : ∀ j : Nat, Rn K j
  | 0 => ⟨rfl, fun i h => by simp [cntR] at h, fun i h => by simp [cntR] at h, fun b h0 h1 => by omega, fun h => by simp [cntR] at h, fun h => by simp [cntR] at h, rfl⟩
  | j + 1 => by
    have R := rn_all hK j
    have ej : (((j + 1 : Nat) : Int) - 1) = (j : Int) := by omega
    cases h : K (j : Int)
    · obtain ⟨e1, e2⟩ := flatR_no h
      have hhi : ∀ i, i < cntR K j → hi (flatR K j) i < (j : Int) := fun i hi => (R.ok i hi).2.2
      refine ⟨by rw [e1, e2]; exact R.len, ?_, by rw [e1, e2]; exact R.far, ?_, ?_, ?_, by rw [e1, e2, listI_no h]; exact R.sum⟩
      · rw [e1, e2]; intro i hi; have := R.ok i hi; omega
      · rw [e1, e2]; intro b h0 h1
        by_cases e : b = (j : Int)
        · subst e
          rw [h]
          constructor
          · intro x; cases x
          · rintro ⟨i, hi, _, h3⟩; have := hhi i hi; omega
        · exact R.has b h0 (by omega)
      · rw [ej, h]; intro _ x; cases x
      · rw [ej, e1, e2]; intro hn _; exact hhi _ (by omega)
    · cases h' : K ((j : Int) - 1)
      · obtain ⟨e1, e2⟩ := flatR_new h h'
        have old : ∀ i, i < cntR K j → lo (flatR K j ++ [(j : Int), (j : Int)]) i = lo (flatR K j) i ∧ hi (flatR K j ++ [(j : Int), (j : Int)]) i = hi (flatR K j) i := fun i hin => by
          have hl := R.len
          unfold lo hi
          rw [getD_new, getD_new, if_pos (by omega), if_pos (by omega)]
          exact ⟨rfl, rfl⟩
        have new : lo (flatR K j ++ [(j : Int), (j : Int)]) (cntR K j) = j ∧ hi (flatR K j ++ [(j : Int), (j : Int)]) (cntR K j) = j := by
          have hl := R.len
          unfold lo hi
          rw [getD_new, getD_new, if_neg (by omega), if_pos (by omega), if_neg (by omega), if_neg (by omega), if_pos (by omega)]
          exact ⟨rfl, rfl⟩
        refine ⟨by rw [e1, e2]; have := R.len; simp; omega, ?_, ?_, ?_, ?_, ?_, ?_⟩
        · rw [e1, e2]; intro i hi
          by_cases e : i = cntR K j
          · subst e; rw [new.1, new.2]; omega
          · rw [(old i (by omega)).1, (old i (by omega)).2]; have := R.ok i (by omega); omega
        · rw [e1, e2]; intro i hi
          by_cases e : i + 1 = cntR K j
          · rw [e, new.1, (old i (by omega)).2]
            have g := R.gap (by omega) h'
            rw [show cntR K j - 1 = i from by omega] at g
            omega
          · rw [(old i (by omega)).2, (old (i + 1) (by omega)).1]; exact R.far i (by omega)
        · rw [e1, e2]; intro b h0 h1
          by_cases e : b = (j : Int)
          · subst e
            rw [h]
            exact ⟨fun _ => ⟨cntR K j, by omega, by rw [new.1]; omega, by rw [new.2]; omega⟩, fun _ => rfl⟩
          · rw [R.has b h0 (by omega)]
            constructor
            · rintro ⟨i, hi, h2, h3⟩; exact ⟨i, by omega, by rw [(old i hi).1]; exact h2, by rw [(old i hi).2]; exact h3⟩
            · rintro ⟨i, hi, h2, h3⟩
              by_cases e' : i = cntR K j
              · subst e'; rw [new.1] at h2; rw [new.2] at h3; omega
              · rw [(old i (by omega)).1] at h2; rw [(old i (by omega)).2] at h3; exact ⟨i, by omega, h2, h3⟩
        · rw [ej, e1, e2]; intro _ _; rw [Nat.add_sub_cancel, new.2]
        · rw [ej, h]; intro _ x; cases x
        · rw [e1, e2, listI_yes h]
          show sumN _ (cntR K j) + hi _ (cntR K j) - lo _ (cntR K j) + 1 = _
          rw [new.1, new.2, sumN_congr (cntR K j) old, R.sum]; simp
      · obtain ⟨e1, e2⟩ := flatR_on h h'
        have hpos := cntR_pos hK h'
        have hl := R.len
        have old : ∀ i, i < cntR K j → lo ((flatR K j).dropLast ++ [(j : Int)]) i = lo (flatR K j) i := fun i hi => by
          unfold lo
          rw [getD_on (by omega), if_pos (by omega)]
        have old2 : ∀ i, i + 1 < cntR K j → hi ((flatR K j).dropLast ++ [(j : Int)]) i = hi (flatR K j) i := fun i h => by
          unfold hi
          rw [getD_on (by omega), if_pos (by omega)]
        have new : hi ((flatR K j).dropLast ++ [(j : Int)]) (cntR K j - 1) = j := by
          unfold hi
          rw [getD_on (by omega), if_neg (by omega), if_pos (by omega)]
        have was := R.last hpos h'
        refine ⟨by rw [e1, e2]; simp; omega, ?_, ?_, ?_, ?_, ?_, ?_⟩
        · rw [e1, e2]; intro i hi
          rw [old i hi]
          have o := R.ok i hi
          by_cases e : i = cntR K j - 1
          · subst e; rw [new]; omega
          · rw [old2 i (by omega)]; omega
        · rw [e1, e2]; intro i hi
          rw [old2 i hi, old (i + 1) hi]; exact R.far i hi
        · rw [e1, e2]; intro b h0 h1
          by_cases e : b = (j : Int)
          · subst e
            rw [h]
            refine ⟨fun _ => ⟨cntR K j - 1, by omega, ?_, by rw [new]; omega⟩, fun _ => rfl⟩
            rw [old _ (by omega)]; have := R.ok (cntR K j - 1) (by omega); omega
          · rw [R.has b h0 (by omega)]
            constructor
            · rintro ⟨i, hi, h2, h3⟩
              refine ⟨i, hi, by rw [old i hi]; exact h2, ?_⟩
              by_cases e' : i = cntR K j - 1
              · subst e'; rw [new]; omega
              · rw [old2 i (by omega)]; exact h3
            · rintro ⟨i, hi, h2, h3⟩
              rw [old i hi] at h2
              refine ⟨i, hi, h2, ?_⟩
              by_cases e' : i = cntR K j - 1
              · subst e'; rw [was]; omega
              · rw [old2 i (by omega)] at h3; exact h3
        · rw [ej, e1, e2]; intro _ _; exact new
        · rw [ej, h]; intro _ x; cases x
        · rw [e1, e2, listI_yes h]
          obtain ⟨m, hm⟩ : ∃ m, cntR K j = m + 1 := ⟨cntR K j - 1, by omega⟩
          have s := R.sum
          rw [hm] at s new was ⊢
          rw [Nat.add_sub_cancel] at new was
          have s' : sumN (flatR K j) m + hi (flatR K j) m - lo (flatR K j) m + 1 = (listI K j).length := s
          show sumN _ m + hi _ m - lo _ m + 1 = _
          rw [new, old m (by omega), sumN_congr (l' := flatR K j) m (fun i hi => ⟨old i (by omega), old2 i (by omega)⟩)]
          simp; omega
theorem hasI_m1 (f : Nat → Int) : hasI f (-1) = false := hasI_out (by omega)
theorem rn_set (f : Nat → Int) : Rn (hasI f) 256 := rn_all (hasI_m1 f) 256
theorem runsN_le (f : Nat → Int) : runsN f ≤ 256 := cntR_le _ _
end Go.Proofs.YtnfchlkdppblfaaDoor
