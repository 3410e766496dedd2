/- A set in memory (four words), the contracts of set.Has and of the document's Has, and small facts on rows and worlds. No conditions. Carried over from stage 1. -/
import Derived.Test.YtjjnpobppmmgbaaRows
import Derived.WalkKit
import Derived.WalkSpells
import Derived.WalkLawsBesides
import Derived.Deep.QuietTactic
import Derived.BigQuiet
import Derived.Lib.Hide
import Derived.Deep.RegionHeld3
import Derived.Deep.RegionLaw
import Derived.Maps.AppendAt
import Derived.Maps.OwnSet
namespace Go.Proofs.Ytjjnpobppmmgbaa
open Go.RowKit
abbrev SV (f : Nat → Int) : Value := .agg #[.int .u64 (f 0), .int .u64 (f 1), .int .u64 (f 2), .int .u64 (f 3)]
abbrev row4 (f : Nat → Int) : Array Value := #[.int .u64 (f 0), .int .u64 (f 1), .int .u64 (f 2), .int .u64 (f 3)]
theorem cell4 {w : World} {g : Nat} {f : Nat → Int} (h : w.heap[g]? = some (.cells (row4 f) 36 (0, 0))) (i : Nat) (hi : i < 4) : w.cell? ⟨g, i, none⟩ = some (.int .u64 (f i)) := by
  rw [cell_of_row w g i _ _ _ h]
  match i, hi with
  | 0, _ => rfl
  | 1, _ => rfl
  | 2, _ => rfl
  | 3, _ => rfl
theorem stored4 {w : World} {g : Nat} {z : Nat → Int} (f : Nat → Int) (h : w.heap[g]? = some (.cells (row4 z) 36 (0, 0))) :
    ((((w.setCell ⟨g, 0, none⟩ (.int .u64 (f 0))).setCell ⟨g, 1, none⟩ (.int .u64 (f 1))).setCell ⟨g, 2, none⟩ (.int .u64 (f 2))).setCell ⟨g, 3, none⟩ (.int .u64 (f 3))).heap[g]? = some (.cells (row4 f) 36 (0, 0)) := by
  have h1 := heap_setCell_same w g 0 _ _ (.int .u64 (f 0)) h
  have h2 := heap_setCell_same _ g 1 _ _ (.int .u64 (f 1)) h1
  have h3 := heap_setCell_same _ g 2 _ _ (.int .u64 (f 2)) h2
  have h4 := heap_setCell_same _ g 3 _ _ (.int .u64 (f 3)) h3
  rw [h4]; simp
theorem info24s : (Try.prog.info? 36).map (·.size) = some 4 := by kernel_rfl
theorem ret4 {fn : Func} {p : Tmp} (h : fn.results = #[.cell p 36]) {tmps : Array Value} {w : World} {g : Nat} {f : Nat → Int} (hp : tmps.getD p undef = .pointer (some ⟨g, 0, none⟩)) (hg : w.heap[g]? = some (.cells (row4 f) 36 (0, 0))) :
    (results fn tmps).run Try.prog w = .ok (SV f) w :=
  results_cell_row h tmps w g 36 _ _ _ hp hg Try.underlying36 rfl info24s
theorem get4 (f : Nat → Int) (i : Nat) (h : i < 4) : [Value.int .u64 (f 0), Value.int .u64 (f 1), Value.int .u64 (f 2), Value.int .u64 (f 3)][i]? = some (.int .u64 (f i)) := by
  match i, h with
  | 0, _ => rfl
  | 1, _ => rfl
  | 2, _ => rfl
  | 3, _ => rfl
/-- What Has answers. -/
def hasI (f : Nat → Int) (b : Int) : Bool := decide (0 ≤ b) && (decide (b < 256) && bits .and .u64 (f (b / 64).toNat / 2 ^ (b % 64).toNat) 1 == 1)
theorem hasI_out {f : Nat → Int} {b : Int} (h : ¬ (0 ≤ b ∧ b < 256)) : hasI f b = false := by
  unfold hasI
  by_cases h0 : 0 ≤ b
  · rw [decide_eq_false (by omega : ¬ b < 256)]; simp
  · rw [decide_eq_false h0]; simp
theorem hasI_in {f : Nat → Int} {b : Int} (h0 : 0 ≤ b) (h1 : b < 256) : hasI f b = (bits .and .u64 (f (b / 64).toNat / 2 ^ (b % 64).toNat) 1 == 1) := by
  unfold hasI; rw [decide_eq_true h0, decide_eq_true h1]; simp
theorem ret_bool {a b : Bool} (h : a = b) : Ending.returned (.bool a) = .returned (.bool b) := by rw [h]
set_option maxHeartbeats 400000 in
theorem has_any (f : Nat → Int) (b : Int) (w : World) :
    Calls Try.prog 24 #[SV f, .int .i64 b] w fun e w' => e = .returned (.bool (hasI f b)) ∧ Below w.heap.size w w' := by
  by_cases h0 : 0 ≤ b
  · by_cases h1 : b < 256
    · have hg := get4 f (b/64).toNat (by omega)
      have HX := Lib.hid (hasI_in (f := f) h0 h1)
      go_enter Try.func24, Try.ntmps24
      go_wp2
      go_ret
      exact ⟨ret_bool HX.out.symm, (Below.refl _ _).alloc (Nat.le_refl _) _⟩
    · have HX := Lib.hid (hasI_out (f := f) (b := b) (by omega))
      go_enter Try.func24, Try.ntmps24
      go_wp2
      go_ret
      exact ⟨ret_bool HX.out.symm, (Below.refl _ _).alloc (Nat.le_refl _) _⟩
  · have HX := Lib.hid (hasI_out (f := f) (b := b) (by omega))
    go_enter Try.func24, Try.ntmps24
    go_wp2
    go_ret
    exact ⟨ret_bool HX.out.symm, (Below.refl _ _).alloc (Nat.le_refl _) _⟩
set_option maxHeartbeats 400000 in
theorem refhas_any (f : Nat → Int) (b : Int) (w : World) :
    Calls Try.prog 16 #[SV f, .int .i64 b] w fun e w' => e = .returned (.bool (hasI f b)) ∧ Below w.heap.size w w' := by
  by_cases h0 : 0 ≤ b
  · by_cases h1 : b < 256
    · have hg := get4 f (b/64).toNat (by omega)
      have HX := Lib.hid (hasI_in (f := f) h0 h1)
      go_enter Try.func16, Try.ntmps16
      go_wp2
      go_ret
      exact ⟨ret_bool HX.out.symm, (Below.refl _ _).alloc (Nat.le_refl _) _⟩
    · have HX := Lib.hid (hasI_out (f := f) (b := b) (by omega))
      go_enter Try.func16, Try.ntmps16
      go_wp2
      go_ret
      exact ⟨ret_bool HX.out.symm, (Below.refl _ _).alloc (Nat.le_refl _) _⟩
  · have HX := Lib.hid (hasI_out (f := f) (b := b) (by omega))
    go_enter Try.func16, Try.ntmps16
    go_wp2
    go_ret
    exact ⟨ret_bool HX.out.symm, (Below.refl _ _).alloc (Nat.le_refl _) _⟩
theorem ret_int {k : IntKind} {a b : Int} (h : a = b) : Ending.returned (.int k a) = .returned (.int k b) := by rw [h]
theorem heap_alloc3_a (w : World) (A B C : Obj) : (((w.alloc A).alloc B).alloc C).heap[w.heap.size]? = some A := by
  rw [Below.heap_alloc _ _ _ (by simp; omega)]; exact heap_alloc2_old _ _ _
theorem heap_alloc3_b (w : World) (A B C : Obj) : (((w.alloc A).alloc B).alloc C).heap[w.heap.size + 1]? = some B := by
  rw [Below.heap_alloc _ _ _ (by simp)]; exact heap_alloc2_new _ _ _
theorem heap_alloc3_c (w : World) (A B C : Obj) : (((w.alloc A).alloc B).alloc C).heap[w.heap.size + 2]? = some C := by
  have := heap_alloc_new ((w.alloc A).alloc B) C
  simpa using this
/-- What Of's closure answers. -/
def ofK (x y b : Int) : Bool := decide (x ≤ b) && decide (b ≤ y)
/-- A contract read from an elder world on. -/
theorem fromB {k : Nat} {args : Array Value} {w wx : World} {E : Ending} (h : Calls Try.prog k args wx fun e w' => e = E ∧ Below wx.heap.size wx w') (hB : Below w.heap.size w wx) :
    Calls Try.prog k args wx fun e w' => e = E ∧ Below w.heap.size w w' :=
  h.mono fun _ _ ⟨he, hb⟩ => ⟨he, hB.trans (hb.mono hB.size)⟩
theorem keep4 {w w1 : World} {p : Nat} {f : Nat → Int} (hpl : p < w.heap.size) (hc : w.heap[p]? = some (.cells (row4 f) 36 (0, 0))) (h : Below w.heap.size w w1) :
    Below w.heap.size w w1 ∧ w1.cell? ⟨p, 0, none⟩ = some (.int .u64 (f 0)) ∧ w1.cell? ⟨p, 1, none⟩ = some (.int .u64 (f 1)) ∧ w1.cell? ⟨p, 2, none⟩ = some (.int .u64 (f 2)) ∧ w1.cell? ⟨p, 3, none⟩ = some (.int .u64 (f 3)) := by
  have hc1 := (h.block p hpl).trans hc
  exact ⟨h, cell4 hc1 0 (by omega), cell4 hc1 1 (by omega), cell4 hc1 2 (by omega), cell4 hc1 3 (by omega)⟩
/-- Two sets that lie in memory, in every world that has turned nothing of them. -/
theorem keep8 {w w1 : World} {p q : Nat} {f g : Nat → Int} (hpl : p < w.heap.size) (hql : q < w.heap.size) (hp : w.heap[p]? = some (.cells (row4 f) 36 (0, 0))) (hq : w.heap[q]? = some (.cells (row4 g) 36 (0, 0))) (h : Below w.heap.size w w1) :
    Below w.heap.size w w1 ∧ w1.cell? ⟨p, 0, none⟩ = some (.int .u64 (f 0)) ∧ w1.cell? ⟨p, 1, none⟩ = some (.int .u64 (f 1)) ∧ w1.cell? ⟨p, 2, none⟩ = some (.int .u64 (f 2)) ∧ w1.cell? ⟨p, 3, none⟩ = some (.int .u64 (f 3)) ∧
      w1.cell? ⟨q, 0, none⟩ = some (.int .u64 (g 0)) ∧ w1.cell? ⟨q, 1, none⟩ = some (.int .u64 (g 1)) ∧ w1.cell? ⟨q, 2, none⟩ = some (.int .u64 (g 2)) ∧ w1.cell? ⟨q, 3, none⟩ = some (.int .u64 (g 3)) := by
  have hc1 := (h.block p hpl).trans hp
  have hd1 := (h.block q hql).trans hq
  exact ⟨h, cell4 hc1 0 (by omega), cell4 hc1 1 (by omega), cell4 hc1 2 (by omega), cell4 hc1 3 (by omega), cell4 hd1 0 (by omega), cell4 hd1 1 (by omega), cell4 hd1 2 (by omega), cell4 hd1 3 (by omega)⟩
theorem ownsRow_below {w w' : World} {base e size n : Nat} {v : Value} {xs : List Value} (h : w.ownsRow base e size v n xs) (hb : Below w.heap.size w w') : w'.ownsRow base e size v n xs := by
  obtain ⟨hl, h | ⟨g, cap, cur, hv, hg, hh, h1, h2, h3, h4⟩⟩ := h
  · exact ⟨hl, Or.inl h⟩
  · refine ⟨hl, Or.inr ⟨g, cap, cur, hv, hg, ?_, h1, h2, h3, h4⟩⟩
    rw [hb.block g (by rcases Nat.lt_or_ge g w.heap.size with h | h; exact h; rw [Array.getElem?_eq_none h] at hh; cases hh)]; exact hh
theorem ownsRow_base {w : World} {base base' e size n : Nat} {v : Value} {xs : List Value} (h : w.ownsRow base e size v n xs) (hb : base' ≤ base) : w.ownsRow base' e size v n xs := by
  obtain ⟨hl, h | ⟨g, cap, cur, hv, hg, hh, h1, h2, h3, h4⟩⟩ := h
  · exact ⟨hl, Or.inl h⟩
  · exact ⟨hl, Or.inr ⟨g, cap, cur, hv, by omega, hh, h1, h2, h3, h4⟩⟩
theorem own_ge {w : World} {base e size n : Nat} {v : Value} {xs : List Value} (h : w.ownsRow base e size v n xs) : ∀ k, v.ownBlock = some k → base ≤ k := by
  intro k hk
  obtain ⟨_, ⟨rfl, _⟩ | ⟨g, cap, cur, rfl, hg, _⟩⟩ := h
  · cases hk
  · cases hk; exact hg
/-- What a call that answers a slice of ints of its own comes to. -/
def GivesInts (w : World) (l : List Int) (e : Ending) (w' : World) : Prop :=
  ∃ v, e = .returned v ∧ w'.ownsRow w.heap.size 3 1 v l.length (l.map (Value.int .i64)) ∧ Below w.heap.size w w'
theorem info3 : (Try.prog.info? 3).map (fun i => (i.zero, i.size, i.bytes)) = some (some (.int .i64 0), 1, 8) := by kernel_rfl
theorem row_cells {w : World} {base e size n : Nat} {v : Value} {xs : List Value} (h : w.ownsRow base e size v n xs) (hn : 0 < n) :
    ∃ g cap, v = .slice (some ⟨g, 0, none⟩) n cap ∧ base ≤ g ∧ g < w.heap.size ∧ n ≤ cap ∧ cap ≤ maxLen ∧ ∀ j u, xs[j]? = some u → w.cell? ⟨g, j, none⟩ = some u := by
  obtain ⟨hl, ⟨_, h0⟩ | ⟨g, cap, cur, hv, hg, hh, h1, h2, h3, h4⟩⟩ := h
  · omega
  · refine ⟨g, cap, hv, hg, ?_, h1, h2, fun j u hu => ?_⟩
    · rcases Nat.lt_or_ge g w.heap.size with h | h
      · exact h
      · rw [Array.getElem?_eq_none h] at hh; cases hh
    · rw [cell_of_row _ _ _ _ _ _ hh]
      have hj : j < n * size := by
        rcases Nat.lt_or_ge j (n * size) with h | h
        · exact h
        · rw [List.getElem?_eq_none (by omega)] at hu; cases hu
      rw [← h4, List.getElem?_take, if_pos hj] at hu
      simpa using hu
theorem row_slice {w : World} {base e size n : Nat} {v : Value} {xs : List Value} (h : w.ownsRow base e size v n xs) : ∃ a c, v = .slice a n c := by
  obtain ⟨_, ⟨rfl, rfl⟩ | ⟨g, cap, cur, rfl, _⟩⟩ := h
  · exact ⟨_, _, rfl⟩
  · exact ⟨_, _, rfl⟩
set_option maxHeartbeats 400000 in
theorem ints_none (a1 a2 : Option Addr) (c1 c2 : Nat) (w : World) :
    Calls Try.prog 11 #[.slice a1 0 c1, .slice a2 0 c2] w fun e w' => e = .returned (.bool true) ∧ Below w.heap.size w w' := by
  go_enter Try.func11, Try.ntmps11
  go_wp2
  refine wp_loop_rounds 1 ?_
  rw [rounds_succ]
  go_wp2
  go_ret
  exact ⟨rfl, Below.refl _ _⟩
set_option maxHeartbeats 400000 in
theorem ints_some (l : List Int) (n g1 g2 c1 c2 : Nat) (hn : 0 < n) (hl : n ≤ maxLen) (w : World) (h1 : g1 < w.heap.size) (h2 : g2 < w.heap.size)
    (k1 : Hid (∀ j, j < n → w.cell? ⟨g1, j, none⟩ = some (.int .i64 (l.getD j 0)))) (k2 : Hid (∀ j, j < n → w.cell? ⟨g2, j, none⟩ = some (.int .i64 (l.getD j 0)))) :
    Calls Try.prog 11 #[.slice (some ⟨g1, 0, none⟩) n c1, .slice (some ⟨g2, 0, none⟩) n c2] w fun e w' => e = .returned (.bool true) ∧ Below w.heap.size w w' := by
  unfold maxLen at hl
  go_enter Try.func11, Try.ntmps11
  go_wp2
  go_loopw [5] (fun c wr => ∃ j : Nat, j ≤ n ∧ c = .int .i64 j ∧ Below w.heap.size w wr) (fun c _ => n - (intOf c).toNat)
  case atStart => exact ⟨0, by omega, rfl, Below.refl _ _⟩
  case round =>
    obtain ⟨j, hj, rfl, hb⟩ := hrel
    by_cases hlt : j < n
    · have q1 := (hb.cell (p := ⟨g1, j, none⟩) h1).trans (k1.out j hlt)
      have q2 := (hb.cell (p := ⟨g2, j, none⟩) h2).trans (k2.out j hlt)
      have i1 : (j : Int) < (n : Int) := by omega
      generalize l.getD j 0 = x at q1 q2
      go_wp2_with fail
      go_quiet (fail)
      go_wp2
      go_roundw
      case rel => exact ⟨j + 1, by omega, by go_num, below_drewN hb _⟩
      case measure => simp [intOf]; omega
    · obtain rfl : n = j := by omega
      go_wp2
      go_ret
      exact ⟨rfl, hb⟩
theorem ints_same {w : World} {b1 b2 : Nat} {v1 v2 : Value} (l : List Int) (o1 : w.ownsRow b1 3 1 v1 l.length (l.map (Value.int .i64))) (o2 : w.ownsRow b2 3 1 v2 l.length (l.map (Value.int .i64))) :
    Calls Try.prog 11 #[v1, v2] w fun e w' => e = .returned (.bool true) ∧ Below w.heap.size w w' := by
  by_cases hn : 0 < l.length
  · obtain ⟨g1, c1, rfl, _, h1, m1, m2, k1⟩ := row_cells o1 hn
    obtain ⟨g2, c2, rfl, _, h2, _, _, k2⟩ := row_cells o2 hn
    refine ints_some l l.length g1 g2 c1 c2 hn (by omega) w h1 h2 (Lib.hid fun j hj => k1 j _ ?_) (Lib.hid fun j hj => k2 j _ ?_)
    · rw [List.getElem?_map, List.getElem?_eq_getElem hj, List.getD_eq_getElem?_getD, List.getElem?_eq_getElem hj]; rfl
    · rw [List.getElem?_map, List.getElem?_eq_getElem hj, List.getD_eq_getElem?_getD, List.getElem?_eq_getElem hj]; rfl
  · obtain ⟨a1, c1, rfl⟩ := row_slice o1
    obtain ⟨a2, c2, rfl⟩ := row_slice o2
    rw [show l.length = 0 from by omega]
    exact ints_none a1 a2 c1 c2 w
end Go.Proofs.Ytjjnpobppmmgbaa
