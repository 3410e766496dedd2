/- Contracts of set.ofWords and set.Has over the landed code, and the small facts on a set's four words in memory that they need. No conditions. -/
import Derived.Test.YthloafbgfjhicaaRows
import Derived.WalkKit
import Derived.WalkSpells
import Derived.WalkLawsBesides
import Derived.Deep.QuietTactic
import Derived.BigQuiet
import Derived.Lib.Hide
namespace Go.Proofs.Ythloafbgfjhicaa
open Go.RowKit
abbrev SV (f : Nat → Int) : Value := .agg #[.int .u64 (f 0), .int .u64 (f 1), .int .u64 (f 2), .int .u64 (f 3)]
/-- Function k is one with a body: a call of it enters it. -/
def Enters (k : Nat) : Prop := ∀ (args : Array Value) (w : World), Sem.run Try.prog (callFunc k args) w = .ok (.enter k args) w
theorem enters31 : Enters 31 := fun _ _ => by kernel_rfl
theorem enters32 : Enters 32 := fun _ _ => by kernel_rfl
theorem enters33 : Enters 33 := fun _ _ => by kernel_rfl
theorem enters37 : Enters 37 := fun _ _ => by kernel_rfl
theorem enters28 : Enters 28 := fun _ _ => by kernel_rfl
theorem enters34 : Enters 34 := fun _ _ => by kernel_rfl
/-- What ofWords' words are behind j rounds. -/
def upto (f : Nat → Int) (j i : Nat) : Int := if i < j then f i else 0
theorem upto_set (f : Nat → Int) (j : Nat) (h : j < 4) : (#[Value.int .u64 (upto f j 0), .int .u64 (upto f j 1), .int .u64 (upto f j 2), .int .u64 (upto f j 3)] : Array Value).setIfInBounds j (.int .u64 (f j)) = #[Value.int .u64 (upto f (j+1) 0), .int .u64 (upto f (j+1) 1), .int .u64 (upto f (j+1) 2), .int .u64 (upto f (j+1) 3)] := by
  match j, h with
  | 0, _ => simp [upto]
  | 1, _ => simp [upto]
  | 2, _ => simp [upto]
  | 3, _ => simp [upto]
abbrev row4 (f : Nat → Int) : Array Value := #[.int .u64 (f 0), .int .u64 (f 1), .int .u64 (f 2), .int .u64 (f 3)]
theorem cell4 {w : World} {g : Nat} {f : Nat → Int} (h : w.heap[g]? = some (.cells (row4 f) 24 (0, 0))) (i : Nat) (hi : i < 4) : w.cell? ⟨g, i, none⟩ = some (.int .u64 (f i)) := by
  rw [cell_of_row w g i _ _ _ h]
  match i, hi with
  | 0, _ => rfl
  | 1, _ => rfl
  | 2, _ => rfl
  | 3, _ => rfl
theorem stored4 {w : World} {g : Nat} {z : Nat → Int} (f : Nat → Int) (h : w.heap[g]? = some (.cells (row4 z) 24 (0, 0))) :
    ((((w.setCell ⟨g, 0, none⟩ (.int .u64 (f 0))).setCell ⟨g, 1, none⟩ (.int .u64 (f 1))).setCell ⟨g, 2, none⟩ (.int .u64 (f 2))).setCell ⟨g, 3, none⟩ (.int .u64 (f 3))).heap[g]? = some (.cells (row4 f) 24 (0, 0)) := by
  have h1 := heap_setCell_same w g 0 _ _ (.int .u64 (f 0)) h
  have h2 := heap_setCell_same _ g 1 _ _ (.int .u64 (f 1)) h1
  have h3 := heap_setCell_same _ g 2 _ _ (.int .u64 (f 2)) h2
  have h4 := heap_setCell_same _ g 3 _ _ (.int .u64 (f 3)) h3
  rw [h4]; simp
theorem info24s : (Try.prog.info? 24).map (·.size) = some 4 := by kernel_rfl
theorem ret4 {fn : Func} {p : Tmp} (h : fn.results = #[.cell p 24]) {tmps : Array Value} {w : World} {g : Nat} {f : Nat → Int} (hp : tmps.getD p undef = .pointer (some ⟨g, 0, none⟩)) (hg : w.heap[g]? = some (.cells (row4 f) 24 (0, 0))) :
    (results fn tmps).run Try.prog w = .ok (SV f) w :=
  results_cell_row h tmps w g 24 _ _ _ hp hg Try.underlying24 rfl info24s
set_option maxHeartbeats 400000 in
theorem ofWords_any (k : Nat) (hk : Enters k) (caps : Array Value) (f : Nat → Int) (w : World)
   (H : Hid (∀ (i : Nat) (w1 : World), i < 4 → Below w.heap.size w w1 → Calls Try.prog k (#[.int .i64 i] ++ caps) w1 fun e w2 => e = .returned (.int .u64 (f i)) ∧ Below w1.heap.size w1 w2)) :
    Calls Try.prog 30 #[.func (.func k) #[] caps] w fun e w' => e = .returned (SV f) ∧ Below w.heap.size w w' := by
  unfold Enters at hk
  go_enter Try.func30, Try.ntmps30
  go_wp2
  go_loopw [5] (fun i wr => ∃ j : Nat, j ≤ 4 ∧ i = .int .i64 j ∧ wr.heap[w.heap.size]? = some (.cells (row4 fun _ => 0) 24 (0, 0)) ∧ wr.heap[w.heap.size + 1]? = some (.cells (row4 (upto f j)) 24 (0, 0)) ∧ w.heap.size + 2 ≤ wr.heap.size ∧ Below w.heap.size w wr) (fun i _ => 4 - (intOf i).toNat)
  case atStart => exact ⟨0, by omega, rfl, heap_alloc2_old _ _ _, heap_alloc2_new _ _ _, by simp, ((Below.refl _ _).alloc (Nat.le_refl _) _).alloc (by simp) _⟩
  case round =>
    obtain ⟨j, hj, rfl, hc0, hc, hs, hb⟩ := hrel
    by_cases hlt : j < 4
    · have HC0 := Lib.hid hc0; have HC := Lib.hid hc; clear hc hc0
      go_wp2_with fail
      refine (H.out j _ hlt hb).mono ?_
      rintro e w1 ⟨rfl, hb1⟩
      have hc1 := HC.out
      have hcc : w1.cell? ⟨w.heap.size + 1, j, none⟩ = some (.int .u64 (upto f j j)) := (hb1.cell (by dsimp only; omega)).trans (cell4 hc1 j hlt)
      have hff : w1.frozen? ⟨w.heap.size + 1, j, none⟩ = false := (hb1.frozen (by dsimp only; omega)).trans (frozen_of_row _ _ _ _ _ hc1)
      clear hc1
      go_wp2
      go_roundw
      case rel =>
        refine ⟨j + 1, by omega, by go_num, ?_, ?_, by simp; have := hb1.size; omega, (hb.trans (hb1.mono (by omega))).setCell (by dsimp only; omega) _⟩
        · rw [heap_setCell_other _ _ _ _ (by dsimp only; omega), hb1.block _ (by omega)]; exact HC0.out
        · rw [heap_setCell_same _ _ _ _ _ _ ((hb1.block _ (by omega)).trans HC.out), upto_set f j hlt]
      case measure => simp [intOf]; omega
    · have e4 : j = 4 := by omega
      subst e4
      have c0 := cell4 hc 0 (by omega)
      have c1 := cell4 hc 1 (by omega)
      have c2 := cell4 hc 2 (by omega)
      have c3 := cell4 hc 3 (by omega)
      have d0 := cell4 hc0 0 (by omega)
      have d1 := cell4 hc0 1 (by omega)
      have d2 := cell4 hc0 2 (by omega)
      have d3 := cell4 hc0 3 (by omega)
      have f0 := frozen_of_row _ _ 0 _ _ hc0
      have f1 := frozen_of_row _ _ 1 _ _ hc0
      have f2 := frozen_of_row _ _ 2 _ _ hc0
      have f3 := frozen_of_row _ _ 3 _ _ hc0
      have HC0 := Lib.hid (stored4 (upto f 4) hc0)
      clear hc hc0
      go_wp2
      refine bodyPost_ret (v := SV f) (ret4 Try.results30 rfl HC0.out) rfl ⟨rfl, ?_⟩
      exact (((hb.setCell (by simp) _).setCell (by simp) _).setCell (by simp) _).setCell (by simp) _

theorem get4 (f : Nat → Int) (i : Nat) (h : i < 4) : [Value.int .u64 (f 0), Value.int .u64 (f 1), Value.int .u64 (f 2), Value.int .u64 (f 3)][i]? = some (.int .u64 (f i)) := by
  match i, h with
  | 0, _ => rfl
  | 1, _ => rfl
  | 2, _ => rfl
  | 3, _ => rfl
/-- What Has answers. -/
def hasI (f : Nat → Int) (b : Int) : Bool := decide (0 ≤ b) && (decide (b < 256) && bits .and .u64 (f (b / 64).toNat / 2 ^ (b % 64).toNat) 1 == 1)
theorem hasI_out {f : Nat → Int} {b : Int} (h : ¬ (0 ≤ b ∧ b < 256)) : hasI f b = false := by
  unfold hasI
  by_cases h0 : 0 ≤ b
  · rw [decide_eq_false (by omega : ¬ b < 256)]; simp
  · rw [decide_eq_false h0]; simp
theorem hasI_in {f : Nat → Int} {b : Int} (h0 : 0 ≤ b) (h1 : b < 256) : hasI f b = (bits .and .u64 (f (b / 64).toNat / 2 ^ (b % 64).toNat) 1 == 1) := by
  unfold hasI; rw [decide_eq_true h0, decide_eq_true h1]; simp
theorem ret_bool {a b : Bool} (h : a = b) : Ending.returned (.bool a) = .returned (.bool b) := by rw [h]
set_option maxHeartbeats 400000 in
theorem has_any (f : Nat → Int) (b : Int) (w : World) :
    Calls Try.prog 9 #[SV f, .int .i64 b] w fun e w' => e = .returned (.bool (hasI f b)) ∧ Below w.heap.size w w' := by
  by_cases h0 : 0 ≤ b
  · by_cases h1 : b < 256
    · have hg := get4 f (b/64).toNat (by omega)
      have HX := Lib.hid (hasI_in (f := f) h0 h1)
      go_enter Try.func9, Try.ntmps9
      go_wp2
      go_ret
      exact ⟨ret_bool HX.out.symm, (Below.refl _ _).alloc (Nat.le_refl _) _⟩
    · have HX := Lib.hid (hasI_out (f := f) (b := b) (by omega))
      go_enter Try.func9, Try.ntmps9
      go_wp2
      go_ret
      exact ⟨ret_bool HX.out.symm, (Below.refl _ _).alloc (Nat.le_refl _) _⟩
  · have HX := Lib.hid (hasI_out (f := f) (b := b) (by omega))
    go_enter Try.func9, Try.ntmps9
    go_wp2
    go_ret
    exact ⟨ret_bool HX.out.symm, (Below.refl _ _).alloc (Nat.le_refl _) _⟩
set_option maxHeartbeats 400000 in
theorem refhas_any (f : Nat → Int) (b : Int) (w : World) :
    Calls Try.prog 10 #[SV f, .int .i64 b] w fun e w' => e = .returned (.bool (hasI f b)) ∧ Below w.heap.size w w' := by
  by_cases h0 : 0 ≤ b
  · by_cases h1 : b < 256
    · have hg := get4 f (b/64).toNat (by omega)
      have HX := Lib.hid (hasI_in (f := f) h0 h1)
      go_enter Try.func10, Try.ntmps10
      go_wp2
      go_ret
      exact ⟨ret_bool HX.out.symm, (Below.refl _ _).alloc (Nat.le_refl _) _⟩
    · have HX := Lib.hid (hasI_out (f := f) (b := b) (by omega))
      go_enter Try.func10, Try.ntmps10
      go_wp2
      go_ret
      exact ⟨ret_bool HX.out.symm, (Below.refl _ _).alloc (Nat.le_refl _) _⟩
  · have HX := Lib.hid (hasI_out (f := f) (b := b) (by omega))
    go_enter Try.func10, Try.ntmps10
    go_wp2
    go_ret
    exact ⟨ret_bool HX.out.symm, (Below.refl _ _).alloc (Nat.le_refl _) _⟩
end Go.Proofs.Ythloafbgfjhicaa
