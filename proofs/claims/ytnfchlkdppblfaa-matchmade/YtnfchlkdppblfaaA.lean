/- Sets of bytes: contracts of set.Has, ofBytes, Of, Runs, and Go's == on them. No conditions. Carried over from stage 1. -/
import Derived.Test.YtnfchlkdppblfaaRows
import Derived.WalkKit
import Derived.WalkSpells
import Derived.WalkLawsBesides
import Derived.Deep.QuietTactic
import Derived.BigQuiet
import Derived.Lib.Hide
import Derived.Deep.RegionHeld3
import Derived.Deep.RegionLaw
import Derived.Deep.AppendLies
import Derived.Maps.AppendAt
import Derived.Maps.OwnSet
import Derived.ChangeKeysEq
namespace Go.Proofs.Ytnfchlkdppblfaa
open Go.RowKit
abbrev SV (f : Nat → Int) : Value := .agg #[.int .u64 (f 0), .int .u64 (f 1), .int .u64 (f 2), .int .u64 (f 3)]
/-- Function k is one with a body: a call of it enters it. -/
def Enters (k : Nat) : Prop := ∀ (args : Array Value) (w : World), Sem.run Try.prog (callFunc k args) w = .ok (.enter k args) w
theorem enters50 : Enters 50 := fun _ _ => by kernel_rfl
theorem enters51 : Enters 51 := fun _ _ => by kernel_rfl
/-- What ofWords' words are behind j rounds. -/
def upto (f : Nat → Int) (j i : Nat) : Int := if i < j then f i else 0
theorem upto_set (f : Nat → Int) (j : Nat) (h : j < 4) : (#[Value.int .u64 (upto f j 0), .int .u64 (upto f j 1), .int .u64 (upto f j 2), .int .u64 (upto f j 3)] : Array Value).setIfInBounds j (.int .u64 (f j)) = #[Value.int .u64 (upto f (j+1) 0), .int .u64 (upto f (j+1) 1), .int .u64 (upto f (j+1) 2), .int .u64 (upto f (j+1) 3)] := by
  match j, h with
  | 0, _ => simp [upto]
  | 1, _ => simp [upto]
  | 2, _ => simp [upto]
  | 3, _ => simp [upto]
abbrev row4 (f : Nat → Int) : Array Value := #[.int .u64 (f 0), .int .u64 (f 1), .int .u64 (f 2), .int .u64 (f 3)]
theorem cell4 {w : World} {g : Nat} {f : Nat → Int} (h : w.heap[g]? = some (.cells (row4 f) 27 (0, 0))) (i : Nat) (hi : i < 4) : w.cell? ⟨g, i, none⟩ = some (.int .u64 (f i)) := by
  rw [cell_of_row w g i _ _ _ h]
  match i, hi with
  | 0, _ => rfl
  | 1, _ => rfl
  | 2, _ => rfl
  | 3, _ => rfl
theorem stored4 {w : World} {g : Nat} {z : Nat → Int} (f : Nat → Int) (h : w.heap[g]? = some (.cells (row4 z) 27 (0, 0))) :
    ((((w.setCell ⟨g, 0, none⟩ (.int .u64 (f 0))).setCell ⟨g, 1, none⟩ (.int .u64 (f 1))).setCell ⟨g, 2, none⟩ (.int .u64 (f 2))).setCell ⟨g, 3, none⟩ (.int .u64 (f 3))).heap[g]? = some (.cells (row4 f) 27 (0, 0)) := by
  have h1 := heap_setCell_same w g 0 _ _ (.int .u64 (f 0)) h
  have h2 := heap_setCell_same _ g 1 _ _ (.int .u64 (f 1)) h1
  have h3 := heap_setCell_same _ g 2 _ _ (.int .u64 (f 2)) h2
  have h4 := heap_setCell_same _ g 3 _ _ (.int .u64 (f 3)) h3
  rw [h4]; simp
theorem info24s : (Try.prog.info? 27).map (·.size) = some 4 := by kernel_rfl
theorem ret4 {fn : Func} {p : Tmp} (h : fn.results = #[.cell p 27]) {tmps : Array Value} {w : World} {g : Nat} {f : Nat → Int} (hp : tmps.getD p undef = .pointer (some ⟨g, 0, none⟩)) (hg : w.heap[g]? = some (.cells (row4 f) 27 (0, 0))) :
    (results fn tmps).run Try.prog w = .ok (SV f) w :=
  results_cell_row h tmps w g 27 _ _ _ hp hg Try.underlying27 rfl info24s
theorem get4 (f : Nat → Int) (i : Nat) (h : i < 4) : [Value.int .u64 (f 0), Value.int .u64 (f 1), Value.int .u64 (f 2), Value.int .u64 (f 3)][i]? = some (.int .u64 (f i)) := by
  match i, h with
  | 0, _ => rfl
  | 1, _ => rfl
  | 2, _ => rfl
  | 3, _ => rfl
/-- What Has answers. -/
def hasI (f : Nat → Int) (b : Int) : Bool := decide (0 ≤ b) && (decide (b < 256) && bits .and .u64 (f (b / 64).toNat / 2 ^ (b % 64).toNat) 1 == 1)
theorem hasI_out {f : Nat → Int} {b : Int} (h : ¬ (0 ≤ b ∧ b < 256)) : hasI f b = false := by
  unfold hasI
  by_cases h0 : 0 ≤ b
  · rw [decide_eq_false (by omega : ¬ b < 256)]; simp
  · rw [decide_eq_false h0]; simp
theorem hasI_in {f : Nat → Int} {b : Int} (h0 : 0 ≤ b) (h1 : b < 256) : hasI f b = (bits .and .u64 (f (b / 64).toNat / 2 ^ (b % 64).toNat) 1 == 1) := by
  unfold hasI; rw [decide_eq_true h0, decide_eq_true h1]; simp
theorem ret_bool {a b : Bool} (h : a = b) : Ending.returned (.bool a) = .returned (.bool b) := by rw [h]
set_option maxHeartbeats 400000 in
theorem has_any (f : Nat → Int) (b : Int) (w : World) :
    Calls Try.prog 57 #[SV f, .int .i64 b] w fun e w' => e = .returned (.bool (hasI f b)) ∧ Below w.heap.size w w' := by
  by_cases h0 : 0 ≤ b
  · by_cases h1 : b < 256
    · have hg := get4 f (b/64).toNat (by omega)
      have HX := Lib.hid (hasI_in (f := f) h0 h1)
      go_enter Try.func57, Try.ntmps57
      go_wp2
      go_ret
      exact ⟨ret_bool HX.out.symm, (Below.refl _ _).alloc (Nat.le_refl _) _⟩
    · have HX := Lib.hid (hasI_out (f := f) (b := b) (by omega))
      go_enter Try.func57, Try.ntmps57
      go_wp2
      go_ret
      exact ⟨ret_bool HX.out.symm, (Below.refl _ _).alloc (Nat.le_refl _) _⟩
  · have HX := Lib.hid (hasI_out (f := f) (b := b) (by omega))
    go_enter Try.func57, Try.ntmps57
    go_wp2
    go_ret
    exact ⟨ret_bool HX.out.symm, (Below.refl _ _).alloc (Nat.le_refl _) _⟩
set_option maxHeartbeats 400000 in
theorem refhas_any (f : Nat → Int) (b : Int) (w : World) :
    Calls Try.prog 44 #[SV f, .int .i64 b] w fun e w' => e = .returned (.bool (hasI f b)) ∧ Below w.heap.size w w' := by
  by_cases h0 : 0 ≤ b
  · by_cases h1 : b < 256
    · have hg := get4 f (b/64).toNat (by omega)
      have HX := Lib.hid (hasI_in (f := f) h0 h1)
      go_enter Try.func44, Try.ntmps44
      go_wp2
      go_ret
      exact ⟨ret_bool HX.out.symm, (Below.refl _ _).alloc (Nat.le_refl _) _⟩
    · have HX := Lib.hid (hasI_out (f := f) (b := b) (by omega))
      go_enter Try.func44, Try.ntmps44
      go_wp2
      go_ret
      exact ⟨ret_bool HX.out.symm, (Below.refl _ _).alloc (Nat.le_refl _) _⟩
  · have HX := Lib.hid (hasI_out (f := f) (b := b) (by omega))
    go_enter Try.func44, Try.ntmps44
    go_wp2
    go_ret
    exact ⟨ret_bool HX.out.symm, (Below.refl _ _).alloc (Nat.le_refl _) _⟩
theorem ret_int {k : IntKind} {a b : Int} (h : a = b) : Ending.returned (.int k a) = .returned (.int k b) := by rw [h]
theorem heap_alloc3_a (w : World) (A B C : Obj) : (((w.alloc A).alloc B).alloc C).heap[w.heap.size]? = some A := by
  rw [Below.heap_alloc _ _ _ (by simp; omega)]; exact heap_alloc2_old _ _ _
theorem heap_alloc3_b (w : World) (A B C : Obj) : (((w.alloc A).alloc B).alloc C).heap[w.heap.size + 1]? = some B := by
  rw [Below.heap_alloc _ _ _ (by simp)]; exact heap_alloc2_new _ _ _
theorem heap_alloc3_c (w : World) (A B C : Obj) : (((w.alloc A).alloc B).alloc C).heap[w.heap.size + 2]? = some C := by
  have := heap_alloc_new ((w.alloc A).alloc B) C
  simpa using this
/-- A word's first j bits, out of K. -/
def wordI (K : Int → Bool) (i : Nat) : Nat → Int
  | 0 => 0
  | j + 1 => if K ((i : Int) * 64 + (j : Int)) then bits .or .u64 (wordI K i j) (IntKind.u64.wrap (2 ^ j)) else wordI K i j
theorem wordI_no {K : Int → Bool} {i j : Nat} (h : K ((i : Int) * 64 + (j : Int)) = false) : wordI K i (j + 1) = wordI K i j := by
  show (if _ then _ else _) = _
  rw [h]; rfl
theorem wordI_yes {K : Int → Bool} {i j : Nat} (h : K ((i : Int) * 64 + (j : Int)) = true) : wordI K i (j + 1) = bits .or .u64 (wordI K i j) (IntKind.u64.wrap (2 ^ j)) := by
  show (if _ then _ else _) = _
  rw [h]; rfl
/-- The set of the bytes for which K says yes. -/
def byK (K : Int → Bool) (i : Nat) : Int := wordI K i 64
/-- What Of's closure answers. -/
def ofK (x y b : Int) : Bool := decide (x ≤ b) && decide (b ≤ y)
/-- A contract read from an elder world on. -/
theorem fromB {k : Nat} {args : Array Value} {w wx : World} {E : Ending} (h : Calls Try.prog k args wx fun e w' => e = E ∧ Below wx.heap.size wx w') (hB : Below w.heap.size w wx) :
    Calls Try.prog k args wx fun e w' => e = E ∧ Below w.heap.size w w' :=
  h.mono fun _ _ ⟨he, hb⟩ => ⟨he, hB.trans (hb.mono hB.size)⟩
theorem keep4 {w w1 : World} {p : Nat} {f : Nat → Int} (hpl : p < w.heap.size) (hc : w.heap[p]? = some (.cells (row4 f) 27 (0, 0))) (h : Below w.heap.size w w1) :
    Below w.heap.size w w1 ∧ w1.cell? ⟨p, 0, none⟩ = some (.int .u64 (f 0)) ∧ w1.cell? ⟨p, 1, none⟩ = some (.int .u64 (f 1)) ∧ w1.cell? ⟨p, 2, none⟩ = some (.int .u64 (f 2)) ∧ w1.cell? ⟨p, 3, none⟩ = some (.int .u64 (f 3)) := by
  have hc1 := (h.block p hpl).trans hc
  exact ⟨h, cell4 hc1 0 (by omega), cell4 hc1 1 (by omega), cell4 hc1 2 (by omega), cell4 hc1 3 (by omega)⟩
/-- The numbers below j for which K says yes. -/
def listI (K : Int → Bool) : Nat → List Int
  | 0 => []
  | j + 1 => if K (j : Int) then listI K j ++ [(j : Int)] else listI K j
theorem listI_yes {K : Int → Bool} {j : Nat} (h : K (j : Int) = true) : listI K (j + 1) = listI K j ++ [(j : Int)] := by
  show (if _ then _ else _) = _; rw [h]; rfl
theorem listI_no {K : Int → Bool} {j : Nat} (h : K (j : Int) = false) : listI K (j + 1) = listI K j := by
  show (if _ then _ else _) = _; rw [h]; rfl
theorem listI_le (K : Int → Bool) (j : Nat) : (listI K j).length ≤ j := by
  induction j with
  | zero => exact Nat.le_refl _
  | succ j ih =>
    cases h : K (j : Int)
    · rw [listI_no h]; omega
    · rw [listI_yes h]; simp; omega
theorem ownsRow_below {w w' : World} {base e size n : Nat} {v : Value} {xs : List Value} (h : w.ownsRow base e size v n xs) (hb : Below w.heap.size w w') : w'.ownsRow base e size v n xs := by
  obtain ⟨hl, h | ⟨g, cap, cur, hv, hg, hh, h1, h2, h3, h4⟩⟩ := h
  · exact ⟨hl, Or.inl h⟩
  · refine ⟨hl, Or.inr ⟨g, cap, cur, hv, hg, ?_, h1, h2, h3, h4⟩⟩
    rw [hb.block g (by rcases Nat.lt_or_ge g w.heap.size with h | h; exact h; rw [Array.getElem?_eq_none h] at hh; cases hh)]; exact hh
theorem ownsRow_base {w : World} {base base' e size n : Nat} {v : Value} {xs : List Value} (h : w.ownsRow base e size v n xs) (hb : base' ≤ base) : w.ownsRow base' e size v n xs := by
  obtain ⟨hl, h | ⟨g, cap, cur, hv, hg, hh, h1, h2, h3, h4⟩⟩ := h
  · exact ⟨hl, Or.inl h⟩
  · exact ⟨hl, Or.inr ⟨g, cap, cur, hv, by omega, hh, h1, h2, h3, h4⟩⟩
theorem own_ge {w : World} {base e size n : Nat} {v : Value} {xs : List Value} (h : w.ownsRow base e size v n xs) : ∀ k, v.ownBlock = some k → base ≤ k := by
  intro k hk
  obtain ⟨_, ⟨rfl, _⟩ | ⟨g, cap, cur, rfl, hg, _⟩⟩ := h
  · cases hk
  · cases hk; exact hg
/-- What a call that answers a slice of ints of its own comes to. -/
def GivesInts (w : World) (l : List Int) (e : Ending) (w' : World) : Prop :=
  ∃ v, e = .returned v ∧ w'.ownsRow w.heap.size 3 1 v l.length (l.map (Value.int .i64)) ∧ Below w.heap.size w w'
/-- The bytes of a set, rising. -/
def listS (f : Nat → Int) : List Int := listI (hasI f) 256
theorem info3 : (Try.prog.info? 3).map (fun i => (i.zero, i.size, i.bytes)) = some (some (.int .i64 0), 1, 8) := by kernel_rfl
/-- How many runs there are among the numbers below j, and the runs, first and last numbers in a row. -/
def cntR (K : Int → Bool) : Nat → Nat
  | 0 => 0
  | j + 1 => if K (j : Int) then (if K ((j : Int) - 1) then cntR K j else cntR K j + 1) else cntR K j
def flatR (K : Int → Bool) : Nat → List Int
  | 0 => []
  | j + 1 => if K (j : Int) then (if K ((j : Int) - 1) then (flatR K j).dropLast ++ [(j : Int)] else flatR K j ++ [(j : Int), (j : Int)]) else flatR K j
theorem flatR_no {K : Int → Bool} {j : Nat} (h : K (j : Int) = false) : flatR K (j + 1) = flatR K j ∧ cntR K (j + 1) = cntR K j := by
  constructor
  · show (if _ then _ else _) = _; rw [h]; rfl
  · show (if _ then _ else _) = _; rw [h]; rfl
theorem flatR_new {K : Int → Bool} {j : Nat} (h : K (j : Int) = true) (h' : K ((j : Int) - 1) = false) : flatR K (j + 1) = flatR K j ++ [(j : Int), (j : Int)] ∧ cntR K (j + 1) = cntR K j + 1 := by
  constructor
  · show (if _ then _ else _) = _; rw [h, h']; rfl
  · show (if _ then _ else _) = _; rw [h, h']; rfl
theorem flatR_on {K : Int → Bool} {j : Nat} (h : K (j : Int) = true) (h' : K ((j : Int) - 1) = true) : flatR K (j + 1) = (flatR K j).dropLast ++ [(j : Int)] ∧ cntR K (j + 1) = cntR K j := by
  constructor
  · show (if _ then _ else _) = _; rw [h, h']; rfl
  · show (if _ then _ else _) = _; rw [h, h']; rfl
theorem cntR_le (K : Int → Bool) (j : Nat) : cntR K j ≤ j := by
  induction j with
  | zero => exact Nat.le_refl _
  | succ j ih =>
    cases h : K (j : Int)
    · rw [(flatR_no h).2]; omega
    · cases h' : K ((j : Int) - 1)
      · rw [(flatR_new h h').2]; omega
      · rw [(flatR_on h h').2]; omega
theorem cntR_pos {K : Int → Bool} (hK : K (-1) = false) {j : Nat} (h : K ((j : Int) - 1) = true) : 0 < cntR K j := by
  cases j with
  | zero => simp at h; rw [hK] at h; cases h
  | succ j =>
    have h1 : K (j : Int) = true := by have e : (((j + 1 : Nat) : Int) - 1) = (j : Int) := by omega
                                       rw [e] at h; exact h
    clear h
    induction j with
    | zero => rw [(flatR_new h1 (by simpa using hK)).2]; omega
    | succ j ih =>
      cases h' : K (((j + 1 : Nat) : Int) - 1)
      · rw [(flatR_new h1 h').2]; omega
      · rw [(flatR_on h1 h').2]
        exact ih (by have e : (((j + 1 : Nat) : Int) - 1) = (j : Int) := by omega
                     rw [e] at h'; exact h')
def runsS (f : Nat → Int) : List Int := flatR (hasI f) 256
def runsN (f : Nat → Int) : Nat := cntR (hasI f) 256
theorem take_set_last (l : List Value) (k : Nat) (x : Value) (h0 : 0 < k) (h : k ≤ l.length) : (l.set (k - 1) x).take k = (l.take k).dropLast ++ [x] := by
  rw [List.take_set]
  obtain ⟨m, rfl⟩ : ∃ m, k = m + 1 := ⟨k - 1, by omega⟩
  simp only [Nat.add_sub_cancel]
  have hl : m < l.length := by omega
  rw [List.take_succ_eq_append_getElem hl, List.dropLast_concat]
  rw [List.set_append_right _ _ (by simp; omega)]
  simp [Nat.min_eq_left (Nat.le_of_lt hl)]
/-- Are two sets the same, word by word? -/
def eqS (f g : Nat → Int) : Bool := (f 0 == g 0) && ((f 1 == g 1) && ((f 2 == g 2) && (f 3 == g 3)))
theorem guard24 : Try.prog.eqGuardType Try.prog.depth 27 = false := by kernel_rfl
theorem info22 : (Try.prog.info? 25).map (fun i => (i.zero, i.size, i.bytes)) = some (some (.int .u64 0), 1, 8) := by kernel_rfl
theorem cells22 : Try.prog.cellsOf 25 = 1 := by kernel_rfl
theorem cells3 : Try.prog.cellsOf 3 = 1 := by kernel_rfl
theorem eql24 (f g : Nat → Int) (w : World) : Sem.run Try.prog (binOp .eql 27 (SV f) (SV g)) w = .ok (.bool (eqS f g)) w := by
  obtain ⟨i0, hi, _, _, _⟩ := info_parts info22
  rw [run_eql_struct, run_equalIn_array w 9999 _ _ Try.underlying27 hi, cells22]
  have h0 : ∀ w, (part 25 (row4 f) 0).run Try.prog w = .ok (.int .u64 (f 0)) w := fun _ => by kernel_rfl
  have h1 : ∀ w, (part 25 (row4 f) 1).run Try.prog w = .ok (.int .u64 (f 1)) w := fun _ => by kernel_rfl
  have h2 : ∀ w, (part 25 (row4 f) 2).run Try.prog w = .ok (.int .u64 (f 2)) w := fun _ => by kernel_rfl
  have h3 : ∀ w, (part 25 (row4 f) 3).run Try.prog w = .ok (.int .u64 (f 3)) w := fun _ => by kernel_rfl
  have k0 : ∀ w, (part 25 (row4 g) 0).run Try.prog w = .ok (.int .u64 (g 0)) w := fun _ => by kernel_rfl
  have k1 : ∀ w, (part 25 (row4 g) 1).run Try.prog w = .ok (.int .u64 (g 1)) w := fun _ => by kernel_rfl
  have k2 : ∀ w, (part 25 (row4 g) 2).run Try.prog w = .ok (.int .u64 (g 2)) w := fun _ => by kernel_rfl
  have k3 : ∀ w, (part 25 (row4 g) 3).run Try.prog w = .ok (.int .u64 (g 3)) w := fun _ => by kernel_rfl
  have e0 : ∀ (a b : Int) w, (Op.equalIn 9999 25 (.int .u64 a) (.int .u64 b)).run Try.prog w = .ok (a == b) w := fun a b w => run_equalIn_int w 9998 25 .u64 .u64 a b Try.underlying25
  have hr : List.range 4 = [0, 1, 2, 3] := rfl
  rw [hr]
  show (Sem.run Try.prog (Op.eqItems 9999 25 1 (row4 f) (row4 g) [0, 1, 2, 3]) w).andThen _ = _
  clear hi
  by_cases p0 : f 0 = g 0 <;> by_cases p1 : f 1 = g 1 <;> by_cases p2 : f 2 = g 2 <;> by_cases p3 : f 3 = g 3 <;> simp [Op.eqItems, eqS, *]
theorem row_cells {w : World} {base e size n : Nat} {v : Value} {xs : List Value} (h : w.ownsRow base e size v n xs) (hn : 0 < n) :
    ∃ g cap, v = .slice (some ⟨g, 0, none⟩) n cap ∧ base ≤ g ∧ g < w.heap.size ∧ n ≤ cap ∧ cap ≤ maxLen ∧ ∀ j u, xs[j]? = some u → w.cell? ⟨g, j, none⟩ = some u := by
  obtain ⟨hl, ⟨_, h0⟩ | ⟨g, cap, cur, hv, hg, hh, h1, h2, h3, h4⟩⟩ := h
  · omega
  · refine ⟨g, cap, hv, hg, ?_, h1, h2, fun j u hu => ?_⟩
    · rcases Nat.lt_or_ge g w.heap.size with h | h
      · exact h
      · rw [Array.getElem?_eq_none h] at hh; cases hh
    · rw [cell_of_row _ _ _ _ _ _ hh]
      have hj : j < n * size := by
        rcases Nat.lt_or_ge j (n * size) with h | h
        · exact h
        · rw [List.getElem?_eq_none (by omega)] at hu; cases hu
      rw [← h4, List.getElem?_take, if_pos hj] at hu
      simpa using hu
theorem row_slice {w : World} {base e size n : Nat} {v : Value} {xs : List Value} (h : w.ownsRow base e size v n xs) : ∃ a c, v = .slice a n c := by
  obtain ⟨_, ⟨rfl, rfl⟩ | ⟨g, cap, cur, rfl, _⟩⟩ := h
  · exact ⟨_, _, rfl⟩
  · exact ⟨_, _, rfl⟩
end Go.Proofs.Ytnfchlkdppblfaa
