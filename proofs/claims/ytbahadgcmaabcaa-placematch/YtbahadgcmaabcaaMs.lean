/- The law's maker of patterns, by numbers: Pick. -/
import Derived.Test.YtbahadgcmaabcaaLc
namespace Go.Proofs.Ytbahadgcmaabcaa
open Go.RowKit
/-- The maker lies in memory: its numbers, and where it stands. -/
structure Mk (w : World) (p : Nat) (a : Option Addr) (n cap : Nat) (F : Nat → Int) (A : Nat) : Prop where
  box : w.heap[p]? = some (.cells #[.slice a n cap, .int .i64 A] 54 (0, 0))
  row : 0 < n → ∃ g off, a = some ⟨g, off, none⟩ ∧ g < p ∧ ∀ i, i < n → w.cell? ⟨g, off + i, none⟩ = some (.int .u8 (F i))
set_option maxRecDepth 100000 in
theorem Mk.lt {w : World} {p : Nat} {a : Option Addr} {n cap : Nat} {F : Nat → Int} {A : Nat} (h : Mk w p a n cap F A) : p < w.heap.size := (Array.getElem?_eq_some_iff.1 h.box).1
set_option maxRecDepth 100000 in
theorem Mk.below {w w' : World} {p : Nat} {a : Option Addr} {n cap : Nat} {F : Nat → Int} {A : Nat} (h : Mk w p a n cap F A) (hb : Below w.heap.size w w') : Mk w' p a n cap F A := by
  refine ⟨(hb.block p h.lt).trans h.box, fun hn => ?_⟩
  obtain ⟨g, off, ha, hg, hc⟩ := h.row hn
  exact ⟨g, off, ha, hg, fun i hi => (hb.cell (p := ⟨g, _, none⟩) (Nat.lt_trans hg h.lt)).trans (hc i hi)⟩
set_option maxRecDepth 100000 in
theorem grown_of_below {w w' : World} (h : Below w.heap.size w w') (row : Option Nat) : w.grownBy w' row := ⟨h.os, h.tape, h.output, h.size, fun k hk _ => h.block k hk⟩
set_option maxRecDepth 100000 in
/-- The maker steps on by one. -/
theorem Mk.step {w : World} {p : Nat} {a : Option Addr} {n cap : Nat} {F : Nat → Int} {A : Nat} (h : Mk w p a n cap F A) :
    Mk (w.setCell ⟨p, 1, none⟩ (.int .i64 ((A : Int) + 1))) p a n cap F (A + 1) ∧ w.grownBy (w.setCell ⟨p, 1, none⟩ (.int .i64 ((A : Int) + 1))) (some p) := by
  have h1 := heap_setCell_same w p 1 _ _ (.int .i64 ((A : Int) + 1)) h.box
  refine ⟨⟨by rw [h1]; simp, fun hn => ?_⟩, ⟨rfl, rfl, rfl, by simp, fun k _ hk => Below.heap_setCell _ _ _ _ fun e => hk (by rw [e])⟩⟩
  obtain ⟨g, off, ha, hg, hc⟩ := h.row hn
  refine ⟨g, off, ha, hg, fun i hi => ?_⟩
  rw [← hc i hi]
  exact World.cell?_of_block (Below.heap_setCell _ _ _ _ (by show g ≠ p; omega))
set_option maxRecDepth 100000 in
theorem mk_drewN {w : World} {p : Nat} {a : Option Addr} {n cap : Nat} {F : Nat → Int} {A : Nat} (h : Mk w p a n cap F A) (q : Nat) : Mk (w.drewN q) p a n cap F A := h.below (below_drewN (Below.refl _ w) q)
set_option maxRecDepth 100000 in
theorem grown_drewN {w w' : World} {row : Option Nat} (h : w.grownBy w' row) (q : Nat) : w.grownBy (w'.drewN q) row := grownBy_trans h (grown_of_below (below_drewN (Below.refl _ w') q) row)
set_option maxRecDepth 100000 in
set_option maxHeartbeats 1000000 in
theorem pick_any (k : Int) (hk : 1 ≤ k) (hk8 : k ≤ 8) (w : World) (p : Nat) (a : Option Addr) (n cap : Nat) (F : Nat → Int) (A : Nat) (h : Mk w p a n cap F A) (hF : ∀ i, 0 ≤ F i ∧ F i < 256) (hn : n ≤ 30) (hA : A ≤ 1000) :
    Calls Try.prog 32 #[.pointer (some ⟨p, 0, none⟩), .int .i64 k] w fun e w' => ∃ r : Int, e = .returned (.int .i64 r) ∧ 0 ≤ r ∧ r < k ∧ Mk w' p a n cap F (A + 1) ∧ w.grownBy w' (some p) := by
  have d0 := cell_of_row w p 0 _ _ _ h.box
  have d1 := cell_of_row w p 1 _ _ _ h.box
  have f1 := frozen_of_row _ _ 1 _ _ h.box
  obtain ⟨hM, hG⟩ := h.step
  have HM := Lib.hid hM
  have HG := Lib.hid hG
  have HF := Lib.hid hF
  have c0 := cell_of_row _ p 0 _ _ _ hM.box
  have c1 := cell_of_row _ p 1 _ _ _ hM.box
  simp at d0 d1 c0 c1
  have hA1 : (A : Int) ≤ 1000 := by omega
  clear h hM hG hF
  by_cases hlt : A < n
  · obtain ⟨g, off, rfl, hg, hc⟩ := HM.out.row (by omega)
    have hcA := hc A hlt
    obtain ⟨b, hb⟩ : ∃ b, b = F A := ⟨_, rfl⟩
    rw [← hb] at hcA
    have hb0 := (HF.out A).1
    have hb1 := (HF.out A).2
    rw [← hb] at hb0 hb1
    clear hb hc
    have i1 : (A : Int) < (n : Int) := by omega
    have i2 : (n : Int) ≤ 30 := by omega
    have hkn : ¬ k = 0 := by omega
    go_enter Try.func32, Try.ntmps32
    go_wp2_with fail
    generalize w.setCell ⟨p, 1, none⟩ (.int .i64 ((A : Int) + 1)) = w1 at *
    go_quiet (fail)
    go_wp2_with fail
    go_quiet (fail)
    go_wp2
    go_ret
    exact ⟨_, rfl, Int.emod_nonneg _ hkn, Int.emod_lt_of_pos _ (by omega), mk_drewN (mk_drewN HM.out _) _, grown_drewN (grown_drewN HG.out _) _⟩
  · have i1 : ¬ ((A : Int) < (n : Int)) := by omega
    go_enter Try.func32, Try.ntmps32
    go_wp2_with fail
    generalize w.setCell ⟨p, 1, none⟩ (.int .i64 ((A : Int) + 1)) = w1 at *
    go_quiet (fail)
    go_wp2
    go_ret
    exact ⟨0, rfl, by omega, by omega, mk_drewN HM.out _, grown_drewN HG.out _⟩
end Go.Proofs.Ytbahadgcmaabcaa
/- Sets of few runs; patterns whose sets are such, and how long their texts are. -/
namespace Go.Proofs.Ytbahadgcmaabcaa
open Go.RowKit
set_option maxRecDepth 100000 in
theorem cnt_ofK (x y : Int) : ∀ j : Nat, cntR (ofK x y) j ≤ (if x < (j : Int) then 1 else 0) ∨ x < 0
  | 0 => by
    by_cases h : x < 0
    · exact Or.inr h
    · refine Or.inl ?_; simp [cntR]
  | j + 1 => by
    rcases cnt_ofK x y j with h | h
    · refine Or.inl ?_
      by_cases h1 : x < (j : Int)
      · rw [if_pos h1] at h
        rw [if_pos (by omega)]
        unfold cntR
        split
        · rename_i q
          have : ofK x y ((j : Int) - 1) = true := by simp only [ofK, Bool.and_eq_true, decide_eq_true_eq] at q ⊢; omega
          rw [if_pos this]; exact h
        · exact h
      · rw [if_neg h1] at h
        unfold cntR
        by_cases h2 : x < ((j + 1 : Nat) : Int)
        · rw [if_pos h2]; split
          · split <;> omega
          · omega
        · have : ¬ ofK x y (j : Int) = true := by simp only [ofK, Bool.and_eq_true, decide_eq_true_eq]; omega
          rw [if_neg this]; omega
    · exact Or.inr h
set_option maxRecDepth 100000 in
theorem runs_E {x y : Int} (hx : 0 ≤ x) : runsN (sE x y) ≤ 2 := by
  rw [(runE hx).2]
  rcases cnt_ofK x y 256 with h | h
  · split at h <;> omega
  · omega
set_option maxRecDepth 100000 in
theorem runs_notE : runsN (accAll fun b => !hasI (sE 97 97) b) ≤ 2 := by
  have h : cntR (hasI (accAll fun b => !hasI (sE 97 97) b)) 256 = cntR (fun b => decide (0 ≤ b) && !ofK 97 97 b) 256 := (flatR_congr 256 fun b h0 h1 => by
    by_cases q : 0 ≤ b
    · rw [hasI_acc _ q (by omega), agreeE (by omega) b h0 h1]; simp [q]
    · rw [hasI_out (by omega)]; simp [q]).2
  show cntR _ 256 ≤ 2
  rw [h]
  decide +kernel
set_option maxRecDepth 100000 in
theorem runs_z0 : runsN z0 ≤ 2 := by
  have h : ∀ j, cntR (hasI z0) j = 0 := fun j => by
    induction j with
    | zero => rfl
    | succ j ih => rw [cntR, if_neg (by rw [hasI_z0]; simp), ih]
  show cntR _ 256 ≤ 2
  rw [h]; omega
/-- Has each set in a pattern at most two runs? -/
def sml : Tr → Prop
  | .node _ s _ _ _ n _ kid => runsN s ≤ 2 ∧ ∀ i, i < n → sml (kid i)
  | .nul => runsN z0 ≤ 2
set_option maxRecDepth 100000 in
theorem sml_kid {t : Tr} (h : sml t) {i : Nat} (hi : i < t.n) : sml (t.kid i) := by
  cases t with
  | nul => simp [Tr.n] at hi
  | node k s lo hi' a n cap kid => exact h.2 i hi
end Go.Proofs.Ytbahadgcmaabcaa
