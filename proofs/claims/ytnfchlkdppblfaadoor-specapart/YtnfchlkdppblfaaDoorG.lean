/- The text of a set; contract of the landed code's writeSet. -/
import Derived.Test.YtnfchlkdppblfaaDoorV
namespace Go.Proofs.YtnfchlkdppblfaaDoor
open Go.RowKit
/-- Texts one behind the other. -/
def catTo (f : Nat → List UInt8) : Nat → List UInt8
  | 0 => []
  | n + 1 => catTo f n ++ f n
def runT (r : List Int) (i : Nat) : List UInt8 := byteT (lo r i) ++ (if lo r i < hi r i then [45] ++ byteT (hi r i) else [])
/-- Is a set one byte alone? -/
def oneB (f : Nat → Int) : Bool := decide (runsN f = 1) && decide (lo (runsS f) 0 = hi (runsS f) 0)
/-- The text of a set. -/
def setT (f : Nat → Int) : List UInt8 := if oneB f = true then byteT (lo (runsS f) 0) else [91] ++ catTo (runT (runsS f)) (runsN f) ++ [93]
set_option maxRecDepth 100000 in
theorem hasI_z0 (b : Int) : hasI z0 b = false := by
  by_cases h : 0 ≤ b ∧ b < 256
  · rw [hasI_in h.1 h.2]
    have : (z0 (b / 64).toNat / 2 ^ (b % 64).toNat : Int) = 0 := by simp
    rw [this]
    decide
  · exact hasI_out h
set_option maxRecDepth 100000 in
theorem wf_z0 : Wf z0 := fun i _ => by simp [z0]
set_option maxRecDepth 100000 in
theorem runs_pos {f : Nat → Int} (hf : Wf f) (h : eqS f z0 = false) : 0 < runsN f := by
  rcases Nat.eq_zero_or_pos (runsN f) with q | q
  · exfalso
    have : eqS f z0 = true := ext_eqS hf wf_z0 fun b h0 h1 => by
      rw [hasI_z0]
      cases hq : hasI f b
      · rfl
      · obtain ⟨i, hi, _⟩ := ((rn_set f).has b h0 h1).1 hq
        have : i < runsN f := hi
        omega
    rw [this] at h; cases h
  · exact q
set_option maxRecDepth 100000 in
theorem eqS_at {f g : Nat → Int} (h : eqS f g = true) (i : Nat) (hi : i < 4) : f i = g i := by
  simp only [eqS, Bool.and_eq_true, beq_iff_eq] at h
  match i, hi with
  | 0, _ => exact h.1
  | 1, _ => exact h.2.1
  | 2, _ => exact h.2.2.1
  | 3, _ => exact h.2.2.2
set_option maxRecDepth 100000 in
theorem hasI_congr {f g : Nat → Int} (h : eqS f g = true) (b : Int) : hasI f b = hasI g b := by
  by_cases hb : 0 ≤ b ∧ b < 256
  · rw [hasI_in hb.1 hb.2, hasI_in hb.1 hb.2, eqS_at h _ (by omega)]
  · rw [hasI_out hb, hasI_out hb]
set_option maxRecDepth 100000 in
theorem one_eq {f : Nat → Int} (hf : Wf f) (hp : 0 < runsN f) : eqS f (byK (ofK (lo (runsS f) 0) (lo (runsS f) 0))) = oneB f := by
  have R := rn_set f
  obtain ⟨o1, o2, o3⟩ := R.ok 0 hp
  have o1' : 0 ≤ lo (runsS f) 0 := o1
  have o2' : lo (runsS f) 0 ≤ hi (runsS f) 0 := o2
  have o3' : hi (runsS f) 0 < 256 := o3
  cases h : oneB f
  · cases q : eqS f (byK (ofK (lo (runsS f) 0) (lo (runsS f) 0)))
    · rfl
    · exfalso
      have key : ∀ b : Int, 0 ≤ b → b < 256 → hasI f b = true → b = lo (runsS f) 0 := fun b h0 h1 hb => by
        rw [hasI_congr q, hasI_byK _ h0 h1] at hb
        simp only [ofK, Bool.and_eq_true, decide_eq_true_eq] at hb
        omega
      have k1 : hi (runsS f) 0 = lo (runsS f) 0 := key _ (by omega) o3' ((R.has _ (by omega) o3').2 ⟨0, hp, o2, Int.le_refl _⟩)
      have k2 : runsN f = 1 := by
        rcases Nat.lt_or_ge 1 (runsN f) with w | w
        · obtain ⟨p1, p2, p3⟩ := R.ok 1 w
          have f1 := R.far 0 w
          have := key (lo (runsS f) 1) p1 (by have : hi (runsS f) 1 < 256 := p3; have : lo (runsS f) 1 ≤ hi (runsS f) 1 := p2; omega) ((R.has _ p1 (by have : hi (runsS f) 1 < 256 := p3; have : lo (runsS f) 1 ≤ hi (runsS f) 1 := p2; exact Int.lt_of_le_of_lt p2 p3)).2 ⟨1, w, Int.le_refl _, p2⟩)
          have f1' : hi (runsS f) 0 + 1 < lo (runsS f) 1 := f1
          omega
        · omega
      simp [oneB, k1, k2] at h
  · simp only [oneB, Bool.and_eq_true, decide_eq_true_eq] at h
    refine ext_eqS hf (wf_byK _) fun b h0 h1 => ?_
    rw [hasI_byK _ h0 h1]
    cases q : hasI f b
    · symm
      simp only [ofK, Bool.and_eq_false_iff, decide_eq_false_iff_not]
      by_cases e : b = lo (runsS f) 0
      · exfalso
        have := (R.has b h0 h1).2 ⟨0, hp, by show lo (runsS f) 0 ≤ b; omega, by show b ≤ hi (runsS f) 0; omega⟩
        rw [this] at q; cases q
      · omega
    · obtain ⟨i, hi1, hi2, hi3⟩ := (R.has b h0 h1).1 q
      have : i < runsN f := hi1
      obtain rfl : i = 0 := by omega
      have a1 : lo (runsS f) 0 ≤ b := hi2
      have a2 : b ≤ hi (runsS f) 0 := hi3
      simp only [ofK, show b = lo (runsS f) 0 by omega]
      simp
set_option maxRecDepth 100000 in
theorem byteT_len (b : Int) : (byteT b).length ≤ 4 := by unfold byteT; split <;> simp
set_option maxRecDepth 100000 in
theorem runT_len (r : List Int) (i : Nat) : (runT r i).length ≤ 9 := by
  unfold runT
  have h1 := byteT_len (lo r i)
  have h2 := byteT_len (hi r i)
  split <;> simp <;> omega
set_option maxRecDepth 100000 in
theorem catTo_len {f : Nat → List UInt8} {c : Nat} (h : ∀ i, (f i).length ≤ c) : ∀ n, (catTo f n).length ≤ n * c
  | 0 => by simp [catTo]
  | n + 1 => by have := catTo_len h n; have := h n; simp only [catTo, List.length_append, Nat.add_mul]; omega
set_option maxRecDepth 100000 in
theorem setT_len (f : Nat → Int) : (setT f).length ≤ 2400 := by
  unfold setT
  split
  · have := byteT_len (lo (runsS f) 0); omega
  · have h1 := catTo_len (runT_len (runsS f)) (runsN f)
    have h2 := runsN_le f
    simp only [List.length_append, List.length_cons, List.length_nil]
    omega
/-- The runs as they lie in memory. -/
def RunsAt (w : World) (g n : Nat) (r : List Int) : Prop := ∃ cur, w.heap[g]? = some (.cells cur 123 (0, 0)) ∧ ∀ i, i < n → w.cell? ⟨g, i * 2, none⟩ = some (.int .i64 (lo r i)) ∧ w.cell? ⟨g, i * 2 + 1, none⟩ = some (.int .i64 (hi r i))
set_option maxRecDepth 100000 in
theorem runsAt_kept {w w' : World} {g n : Nat} {r : List Int} (h : RunsAt w g n r) (h3 : Lib.OthersKept 5 none w w') : RunsAt w' g n r := by
  obtain ⟨cur, hg, hc⟩ := h
  have hg' : w'.heap[g]? = some (.cells cur 123 (0, 0)) := h3 g _ hg (by simp) (fun c fz q => by injection q with _ q _; cases q)
  refine ⟨cur, hg', fun i hi => ?_⟩
  have e : ∀ o, w'.cell? ⟨g, o, none⟩ = w.cell? ⟨g, o, none⟩ := fun o => World.cell?_of_block (by rw [hg, hg'])
  rw [e, e]; exact hc i hi
set_option maxRecDepth 100000 in
theorem runsAt_of {w : World} {base : Nat} {v : Value} {f : Nat → Int} (h : w.ownsRow base 123 2 v (runsN f) ((runsS f).map (Value.int .i64))) (hp : 0 < runsN f) : ∃ g cap, v = .slice (some ⟨g, 0, none⟩) (runsN f) cap ∧ g < w.heap.size ∧ RunsAt w g (runsN f) (runsS f) := by
  obtain ⟨g, cap, rfl, _, hl, _, _, hc⟩ := row_cells h hp
  have hlen := (rn_set f).len
  have hlen' : (runsS f).length = runsN f * 2 := hlen
  obtain ⟨_, ⟨_, h0⟩ | ⟨g', cap', cur, hv, _, hh, _⟩⟩ := h
  · omega
  · injection hv with e1 _ _
    injection e1 with e1
    injection e1 with e1
    subst e1
    refine ⟨g, cap, rfl, hl, cur, hh, fun i hi => ⟨hc _ _ ?_, hc _ _ ?_⟩⟩
    · rw [List.getElem?_map, List.getElem?_eq_getElem (by omega)]
      simp only [lo, List.getD_eq_getElem?_getD, List.getElem?_eq_getElem (show i * 2 < (runsS f).length by omega), Option.map_some, Option.getD_some]
    · rw [List.getElem?_map, List.getElem?_eq_getElem (by omega)]
      simp only [Proofs.YtnfchlkdppblfaaDoor.hi, List.getD_eq_getElem?_getD, List.getElem?_eq_getElem (show i * 2 + 1 < (runsS f).length by omega), Option.map_some, Option.getD_some]
end Go.Proofs.YtnfchlkdppblfaaDoor
