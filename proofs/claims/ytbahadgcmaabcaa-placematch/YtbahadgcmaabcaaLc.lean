/- The pattern of the law's own first look (awake), reckoned. -/
import Derived.Test.YtbahadgcmaabcaaM
namespace Go.Proofs.Ytbahadgcmaabcaa
open Go.RowKit
set_option maxRecDepth 100000 in
theorem eqS_at {f g : Nat → Int} (h : eqS f g = true) (i : Nat) (hi : i < 4) : f i = g i := by
  simp only [eqS, Bool.and_eq_true, beq_iff_eq] at h
  match i, hi with
  | 0, _ => exact h.1
  | 1, _ => exact h.2.1
  | 2, _ => exact h.2.2.1
  | 3, _ => exact h.2.2.2
set_option maxRecDepth 100000 in
theorem hasI_z0 (b : Int) : hasI z0 b = false := by
  by_cases h : 0 ≤ b ∧ b < 256
  · rw [hasI_in h.1 h.2]
    have : (z0 (b / 64).toNat / 2 ^ (b % 64).toNat : Int) = 0 := by simp
    rw [this]
    decide
  · exact hasI_out h
set_option maxRecDepth 100000 in
theorem hasI_congr {f g : Nat → Int} (h : eqS f g = true) (b : Int) : hasI f b = hasI g b := by
  by_cases hb : 0 ≤ b ∧ b < 256
  · rw [hasI_in hb.1 hb.2, hasI_in hb.1 hb.2, eqS_at h _ (by omega)]
  · rw [hasI_out hb, hasI_out hb]
set_option maxRecDepth 100000 in
theorem flatR_congr {K K' : Int → Bool} : ∀ j : Nat, (∀ b : Int, -1 ≤ b → b < j → K b = K' b) → flatR K j = flatR K' j ∧ cntR K j = cntR K' j
  | 0, _ => ⟨rfl, rfl⟩
  | j + 1, h => by
    obtain ⟨i1, i2⟩ := flatR_congr j fun b h0 h1 => h b h0 (by omega)
    have e1 := h (j : Int) (by omega) (by omega)
    have e2 := h ((j : Int) - 1) (by omega) (by omega)
    constructor
    · show (if K _ then (if K _ then _ else _) else _) = (if K' _ then (if K' _ then _ else _) else _)
      rw [e1, e2, i1]
    · show (if K _ then (if K _ then _ else _) else _) = (if K' _ then (if K' _ then _ else _) else _)
      rw [e1, e2, i2]
/-- The document's set of the bytes from x to y. -/
abbrev sE (x y : Int) : Nat → Int := accAll (ofK x y)
set_option maxRecDepth 100000 in
theorem agreeE {x y : Int} (hx : 0 ≤ x) : ∀ b : Int, -1 ≤ b → b < (256 : Nat) → hasI (sE x y) b = ofK x y b := by
  intro b h0 h1
  by_cases e : b = -1
  · subst e
    rw [hasI_m1]
    simp only [ofK, decide_eq_false (show ¬ x ≤ -1 by omega), Bool.false_and]
  · exact hasI_acc _ (by omega) (by omega)
set_option maxRecDepth 100000 in
theorem runE {x y : Int} (hx : 0 ≤ x) : runsS (sE x y) = flatR (ofK x y) 256 ∧ runsN (sE x y) = cntR (ofK x y) 256 := flatR_congr 256 (agreeE hx)
set_option maxRecDepth 100000 in
theorem ne_E {x y : Int} (hx : 0 ≤ x) (hxy : x ≤ y) (hy : x < 256) : eqS (sE x y) z0 = false := by
  cases h : eqS (sE x y) z0
  · rfl
  · have := hasI_congr h x
    rw [hasI_acc _ hx hy, hasI_z0] at this
    simp [ofK, hxy] at this
/-- A pattern of one set. -/
def leafT (s : Nat → Int) : Tr := .node 2 s 0 0 none 0 0 fun _ => .nul
/-- The pattern that awake asks for. -/
def repG (g : Nat → Int) (q1 : Nat) : Tr := .node 5 z0 0 (-1) (some ⟨q1, 0, none⟩) 1 1 fun _ => leafT g
def awG (f g : Nat → Int) (q1 q2 : Nat) : Tr := .node 3 z0 0 0 (some ⟨q2, 0, none⟩) 2 2 fun i => if i = 0 then leafT f else repG g q1
abbrev repT (q1 : Nat) : Tr := repG (sE 98 99) q1
abbrev awT (q1 q2 : Nat) : Tr := awG (sE 97 97) (sE 98 99) q1 q2
set_option maxRecDepth 100000 in
theorem eq_z0 : eqS z0 z0 = true := by simp [eqS]
set_option maxRecDepth 100000 in
theorem fits_leaf {s : Nat → Int} (h : eqS s z0 = false) : fitsB (leafT s) = true := by
  simp [fitsB, leafT, Tr.k, Tr.s, Tr.lo, Tr.hi, Tr.n, h, plainB, eq_z0]
set_option maxRecDepth 100000 in
theorem ok_leafT {s : Nat → Int} (h : eqS s z0 = false) {lv : Nat} (hl : 0 < lv) : okT (leafT s) lv = true := by
  have := fits_leaf h
  unfold leafT at this ⊢
  simp only [okT, this, hl, decide_true, Bool.true_and, allTo]
set_option maxRecDepth 100000 in
theorem ok_repT (q1 : Nat) {lv : Nat} (hl : 1 < lv) : okT (repT q1) lv = true := by
  have h1 := ok_leafT (ne_E (x := 98) (y := 99) (by omega) (by omega) (by omega)) (show 0 < lv - 1 by omega)
  have h2 : fitsB (repT q1) = true := by simp [fitsB, repT, repG, Tr.k, Tr.s, Tr.lo, Tr.hi, Tr.n, plainB, eq_z0, countsB]
  unfold repT repG at h2 ⊢
  simp only [okT, h2, decide_eq_true (show 0 < lv by omega), Bool.true_and, allTo, h1]
set_option maxRecDepth 100000 in
theorem aw_ok (q1 q2 : Nat) : okT (awT q1 q2) 20 = true := by
  have h0 := ok_leafT (ne_E (x := 97) (y := 97) (by omega) (by omega) (by omega)) (show 0 < 20 - 1 by omega)
  have h1 := ok_repT q1 (show 1 < 20 - 1 by omega)
  have h2 : fitsB (awT q1 q2) = true := by
    simp [fitsB, awT, awG, Tr.k, Tr.s, Tr.lo, Tr.hi, Tr.n, Tr.kid, plainB, eq_z0, anyTo, leafT, repG]
  unfold awT awG at h2 ⊢
  simp only [okT, h2, decide_eq_true (show 0 < 20 by omega), Bool.true_and, allTo]
  simp [h0, h1]
set_option maxRecDepth 100000 in
theorem aw_cnt (q1 q2 : Nat) : cnt (awT q1 q2) = 4 := by simp [awT, awG, cnt, sumTo, leafT, repG]
set_option maxRecDepth 100000 in
theorem aw_sz (q1 q2 : Nat) : sz (awT q1 q2) = 2 := by
  have e : repM 0 (-1) = 1 := by decide
  simp [awT, awG, sz, sumTo, leafT, repG, ownT, timT, Tr.k, Tr.lo, Tr.hi, e]
set_option maxRecDepth 100000 in
theorem aw_right (q1 q2 : Nat) : rightB (awT q1 q2) = true := by
  unfold rightB; rw [aw_ok, aw_cnt, aw_sz]; decide
set_option maxRecDepth 100000 in
theorem rep_right (q1 : Nat) : rightB (repT q1) = true := by
  unfold rightB
  rw [ok_repT q1 (by omega)]
  have e : repM 0 (-1) = 1 := by decide
  simp [repT, repG, cnt, sz, sumTo, leafT, ownT, timT, Tr.k, Tr.lo, Tr.hi, e]
/-- The empty one. -/
def zeroT : Tr := .node 0 z0 0 0 none 0 0 fun _ => .nul
end Go.Proofs.Ytbahadgcmaabcaa
/- The law's own char and first look (awake). -/
namespace Go.Proofs.Ytbahadgcmaabcaa
open Go.RowKit
set_option maxRecDepth 100000 in
theorem wf_z0 : Wf z0 := fun i _ => by simp [z0]
set_option maxRecDepth 100000 in
theorem stored8 {w : World} {g : Nat} {z : Nat → Int} (k : Int) (s : Nat → Int) (lo hi : Int) (v : Value) {k0 : Int} {lo0 hi0 : Int} {v0 : Value} (h : w.heap[g]? = some (.cells (row8 k0 z lo0 hi0 v0) 27 (0, 0))) :
    ((((((((w.setCell ⟨g, 0, none⟩ (.int .i64 k)).setCell ⟨g, 1, none⟩ (.int .u64 (s 0))).setCell ⟨g, 2, none⟩ (.int .u64 (s 1))).setCell ⟨g, 3, none⟩ (.int .u64 (s 2))).setCell ⟨g, 4, none⟩ (.int .u64 (s 3))).setCell ⟨g, 5, none⟩ (.int .i64 lo)).setCell ⟨g, 6, none⟩ (.int .i64 hi)).setCell ⟨g, 7, none⟩ v).heap[g]? = some (.cells (row8 k s lo hi v) 27 (0, 0)) := by
  have h1 := heap_setCell_same w g 0 _ _ (.int .i64 k) h
  have h2 := heap_setCell_same _ g 1 _ _ (.int .u64 (s 0)) h1
  have h3 := heap_setCell_same _ g 2 _ _ (.int .u64 (s 1)) h2
  have h4 := heap_setCell_same _ g 3 _ _ (.int .u64 (s 2)) h3
  have h5 := heap_setCell_same _ g 4 _ _ (.int .u64 (s 3)) h4
  have h6 := heap_setCell_same _ g 5 _ _ (.int .i64 lo) h5
  have h7 := heap_setCell_same _ g 6 _ _ (.int .i64 hi) h6
  have h8 := heap_setCell_same _ g 7 _ _ v h7
  rw [h8]; simp
set_option maxRecDepth 100000 in
theorem info27s : (Try.prog.info? 27).map (·.size) = some 8 := by kernel_rfl
set_option maxRecDepth 100000 in
theorem ret8 {fn : Func} {p : Tmp} (h : fn.results = #[.cell p 27]) {tmps : Array Value} {w : World} {g : Nat} {k : Int} {s : Nat → Int} {lo hi : Int} {v : Value} (hp : tmps.getD p undef = .pointer (some ⟨g, 0, none⟩)) (hg : w.heap[g]? = some (.cells (row8 k s lo hi v) 27 (0, 0))) :
    (results fn tmps).run Try.prog w = .ok (nodeV k s lo hi v) w :=
  results_cell_row h tmps w g 27 _ _ _ hp hg Try.underlying27 rfl info27s
set_option maxRecDepth 100000 in
set_option maxHeartbeats 2000000 in
theorem char_any (b : Int) (w : World) : Calls Try.prog 24 #[.int .i64 b] w fun e w' => e = .returned (nodeV 2 (sE b b) 0 0 (.slice none 0 0)) ∧ Below w.heap.size w w' := by
  obtain ⟨f, hf⟩ : ∃ f, f = sE b b := ⟨_, rfl⟩
  rw [← hf]
  have HOF := Lib.hid (fun w => (refof_any b b w).mono (fun e w' h => (show e = .returned (SV f) ∧ Below w.heap.size w w' from ⟨by rw [h.1, hf], h.2⟩)))
  clear hf
  go_enter Try.func24, Try.ntmps24
  go_wp2_with fail
  refine (HOF.out _).mono ?_
  rintro e w1 ⟨rfl, hb1⟩
  have hr : w1.heap[w.heap.size]? = some (.cells (row8 0 z0 0 0 (.slice none 0 0)) 27 (0, 0)) := box_kept hb1
  have hB := box_below hb1
  obtain ⟨d0, d1, d2, d3, d4, d5, d6, d7⟩ := cell8 hr
  have f0 := frozen_of_row _ _ 0 _ _ hr
  have f1 := frozen_of_row _ _ 1 _ _ hr
  have f2 := frozen_of_row _ _ 2 _ _ hr
  have f3 := frozen_of_row _ _ 3 _ _ hr
  have f4 := frozen_of_row _ _ 4 _ _ hr
  have f5 := frozen_of_row _ _ 5 _ _ hr
  have f6 := frozen_of_row _ _ 6 _ _ hr
  have f7 := frozen_of_row _ _ 7 _ _ hr
  have HR := Lib.hid (stored8 2 f 0 0 (.slice none 0 0) hr)
  clear hr hb1
  go_wp2
  refine bodyPost_ret (v := nodeV 2 f 0 0 (.slice none 0 0)) (ret8 Try.results24 rfl HR.out) rfl ⟨rfl, ?_⟩
  exact (((((((hB.setCell (by simp) _).setCell (by simp) _).setCell (by simp) _).setCell (by simp) _).setCell (by simp) _).setCell (by simp) _).setCell (by simp) _).setCell (by simp) _
set_option maxRecDepth 100000 in
theorem lives_leaf (w : World) (B : Nat) {s : Nat → Int} (hs : Wf s) : Lives w B (leafT s) := ⟨hs, Nat.le_refl _, by unfold maxLen; omega, fun h => by omega, fun i h => by omega⟩
set_option maxRecDepth 100000 in
theorem lives_zero (w : World) (B : Nat) : Lives w B zeroT := ⟨wf_z0, Nat.le_refl _, by unfold maxLen; omega, fun h => by omega, fun i h => by omega⟩
end Go.Proofs.Ytbahadgcmaabcaa
