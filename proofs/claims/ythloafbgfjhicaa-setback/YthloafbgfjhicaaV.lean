/- The law SetLists: contracts of the law's own comparisons, and its walk. -/
import Derived.Test.YthloafbgfjhicaaU
import Derived.Test.YthloafbgfjhicaaP
namespace Go.Proofs.Ythloafbgfjhicaa
open Go.RowKit
theorem row_slice {w : World} {base e size n : Nat} {v : Value} {xs : List Value} (h : w.ownsRow base e size v n xs) : ∃ a c, v = .slice a n c := by
  obtain ⟨_, ⟨rfl, rfl⟩ | ⟨g, cap, cur, rfl, _⟩⟩ := h
  · exact ⟨_, _, rfl⟩
  · exact ⟨_, _, rfl⟩
set_option maxHeartbeats 400000 in
theorem ints_none (a1 a2 : Option Addr) (c1 c2 : Nat) (w : World) :
    Calls Try.prog 21 #[.slice a1 0 c1, .slice a2 0 c2] w fun e w' => e = .returned (.bool true) ∧ Below w.heap.size w w' := by
  go_enter Try.func21, Try.ntmps21
  go_wp2
  refine wp_loop_rounds 1 ?_
  rw [rounds_succ]
  go_wp2
  go_ret
  exact ⟨rfl, Below.refl _ _⟩
set_option maxHeartbeats 400000 in
theorem ints_some (l : List Int) (n g1 g2 c1 c2 : Nat) (hn : 0 < n) (hl : n ≤ maxLen) (w : World) (h1 : g1 < w.heap.size) (h2 : g2 < w.heap.size)
    (k1 : Hid (∀ j, j < n → w.cell? ⟨g1, j, none⟩ = some (.int .i64 (l.getD j 0)))) (k2 : Hid (∀ j, j < n → w.cell? ⟨g2, j, none⟩ = some (.int .i64 (l.getD j 0)))) :
    Calls Try.prog 21 #[.slice (some ⟨g1, 0, none⟩) n c1, .slice (some ⟨g2, 0, none⟩) n c2] w fun e w' => e = .returned (.bool true) ∧ Below w.heap.size w w' := by
  unfold maxLen at hl
  go_enter Try.func21, Try.ntmps21
  go_wp2
  go_loopw [5] (fun c wr => ∃ j : Nat, j ≤ n ∧ c = .int .i64 j ∧ Below w.heap.size w wr) (fun c _ => n - (intOf c).toNat)
  case atStart => exact ⟨0, by omega, rfl, Below.refl _ _⟩
  case round =>
    obtain ⟨j, hj, rfl, hb⟩ := hrel
    by_cases hlt : j < n
    · have q1 := (hb.cell (p := ⟨g1, j, none⟩) h1).trans (k1.out j hlt)
      have q2 := (hb.cell (p := ⟨g2, j, none⟩) h2).trans (k2.out j hlt)
      have i1 : (j : Int) < (n : Int) := by omega
      generalize l.getD j 0 = x at q1 q2
      go_wp2_with fail
      go_quiet (fail)
      go_wp2
      go_roundw
      case rel => exact ⟨j + 1, by omega, by go_num, below_drewN hb _⟩
      case measure => simp [intOf]; omega
    · obtain rfl : n = j := by omega
      go_wp2
      go_ret
      exact ⟨rfl, hb⟩
theorem ints_same {w : World} {b1 b2 : Nat} {v1 v2 : Value} (l : List Int) (o1 : w.ownsRow b1 3 1 v1 l.length (l.map (Value.int .i64))) (o2 : w.ownsRow b2 3 1 v2 l.length (l.map (Value.int .i64))) :
    Calls Try.prog 21 #[v1, v2] w fun e w' => e = .returned (.bool true) ∧ Below w.heap.size w w' := by
  by_cases hn : 0 < l.length
  · obtain ⟨g1, c1, rfl, _, h1, m1, m2, k1⟩ := row_cells o1 hn
    obtain ⟨g2, c2, rfl, _, h2, _, _, k2⟩ := row_cells o2 hn
    refine ints_some l l.length g1 g2 c1 c2 hn (by omega) w h1 h2 (Lib.hid fun j hj => k1 j _ ?_) (Lib.hid fun j hj => k2 j _ ?_)
    · rw [List.getElem?_map, List.getElem?_eq_getElem hj, List.getD_eq_getElem?_getD, List.getElem?_eq_getElem hj]; rfl
    · rw [List.getElem?_map, List.getElem?_eq_getElem hj, List.getD_eq_getElem?_getD, List.getElem?_eq_getElem hj]; rfl
  · obtain ⟨a1, c1, rfl⟩ := row_slice o1
    obtain ⟨a2, c2, rfl⟩ := row_slice o2
    rw [show l.length = 0 from by omega]
    exact ints_none a1 a2 c1 c2 w
set_option maxHeartbeats 400000 in
theorem runs_none (a1 a2 : Option Addr) (c1 c2 : Nat) (w : World) :
    Calls Try.prog 24 #[.slice a1 0 c1, .slice a2 0 c2] w fun e w' => e = .returned (.bool true) ∧ Below w.heap.size w w' := by
  go_enter Try.func24, Try.ntmps24
  go_wp2
  refine wp_loop_rounds 1 ?_
  rw [rounds_succ]
  go_wp2
  go_ret
  exact ⟨rfl, Below.refl _ _⟩
theorem neq39 (a b : Int) (w : World) : Sem.run Try.prog (binOp .neq 39 (.agg #[.int .i64 a, .int .i64 b]) (.agg #[.int .i64 a, .int .i64 b])) w = .ok (.bool false) w := by
  have h := eql39 a b a b w
  rw [run_eql_struct] at h
  rw [run_neq_struct]
  generalize Sem.run Try.prog (Op.equalIn 10000 39 (.agg #[.int .i64 a, .int .i64 b]) (.agg #[.int .i64 a, .int .i64 b])) w = r at h
  cases r with
  | ok b w1 => simp at h ⊢; exact h
  | halt x w1 => simp [Result.andThen] at h
set_option maxHeartbeats 400000 in
theorem runs_some (l : List Int) (n g1 g2 c1 c2 : Nat) (hn : 0 < n) (hl : n ≤ maxLen) (w : World) (h1 : g1 < w.heap.size) (h2 : g2 < w.heap.size)
    (k1 : Hid (∀ j, j < n * 2 → w.cell? ⟨g1, j, none⟩ = some (.int .i64 (l.getD j 0)))) (k2 : Hid (∀ j, j < n * 2 → w.cell? ⟨g2, j, none⟩ = some (.int .i64 (l.getD j 0)))) :
    Calls Try.prog 24 #[.slice (some ⟨g1, 0, none⟩) n c1, .slice (some ⟨g2, 0, none⟩) n c2] w fun e w' => e = .returned (.bool true) ∧ Below w.heap.size w w' := by
  unfold maxLen at hl
  go_enter Try.func24, Try.ntmps24
  go_wp2
  go_loopw [5] (fun c wr => ∃ j : Nat, j ≤ n ∧ c = .int .i64 j ∧ Below w.heap.size w wr) (fun c _ => n - (intOf c).toNat)
  case atStart => exact ⟨0, by omega, rfl, Below.refl _ _⟩
  case round =>
    obtain ⟨j, hj, rfl, hb⟩ := hrel
    by_cases hlt : j < n
    · have q1 := (hb.cell (p := ⟨g1, j * 2, none⟩) h1).trans (k1.out (j * 2) (by omega))
      have q2 := (hb.cell (p := ⟨g2, j * 2, none⟩) h2).trans (k2.out (j * 2) (by omega))
      have q3 := (hb.cell (p := ⟨g1, j * 2 + 1, none⟩) h1).trans (k1.out (j * 2 + 1) (by omega))
      have q4 := (hb.cell (p := ⟨g2, j * 2 + 1, none⟩) h2).trans (k2.out (j * 2 + 1) (by omega))
      have i1 : (j : Int) < (n : Int) := by omega
      generalize l.getD (j * 2) 0 = x at q1 q2
      generalize l.getD (j * 2 + 1) 0 = y at q3 q4
      have hne := neq39 x y
      have hg39 := guard39
      go_wp2_with fail
      go_quiet (fail)
      go_wp2
      go_roundw
      case rel => exact ⟨j + 1, by omega, by go_num, below_drewN hb _⟩
      case measure => simp [intOf]; omega
    · obtain rfl : n = j := by omega
      go_wp2
      go_ret
      exact ⟨rfl, hb⟩
theorem runs_same {w : World} {b1 b2 : Nat} {v1 v2 : Value} (n : Nat) (l : List Int) (o1 : w.ownsRow b1 39 2 v1 n (l.map (Value.int .i64))) (o2 : w.ownsRow b2 39 2 v2 n (l.map (Value.int .i64))) :
    Calls Try.prog 24 #[v1, v2] w fun e w' => e = .returned (.bool true) ∧ Below w.heap.size w w' := by
  have hll : l.length = n * 2 := by have := o1.1; simpa using this
  by_cases hn : 0 < n
  · obtain ⟨g1, c1, rfl, _, h1, m1, m2, k1⟩ := row_cells o1 hn
    obtain ⟨g2, c2, rfl, _, h2, _, _, k2⟩ := row_cells o2 hn
    refine runs_some l n g1 g2 c1 c2 hn (by omega) w h1 h2 (Lib.hid fun j hj => k1 j _ ?_) (Lib.hid fun j hj => k2 j _ ?_)
    · rw [← hll] at hj; rw [List.getElem?_map, List.getElem?_eq_getElem hj, List.getD_eq_getElem?_getD, List.getElem?_eq_getElem hj]; rfl
    · rw [← hll] at hj; rw [List.getElem?_map, List.getElem?_eq_getElem hj, List.getD_eq_getElem?_getD, List.getElem?_eq_getElem hj]; rfl
  · obtain ⟨a1, c1, rfl⟩ := row_slice o1
    obtain ⟨a2, c2, rfl⟩ := row_slice o2
    rw [show n = 0 from by omega]
    exact runs_none a1 a2 c1 c2 w
end Go.Proofs.Ythloafbgfjhicaa
