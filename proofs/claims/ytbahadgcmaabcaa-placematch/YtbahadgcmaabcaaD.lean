/- Sets of bytes: contracts of set.Has, ofBytes, Of, Runs, and Go's == on them. No conditions. Carried over from stage 1. -/
import Derived.Test.YtbahadgcmaabcaaRows
import Derived.WalkKit
import Derived.WalkSpells
import Derived.WalkLawsBesides
import Derived.Deep.QuietTactic
import Derived.BigQuiet
import Derived.Lib.Hide
import Derived.Deep.RegionHeld3
import Derived.Deep.RegionLaw
import Derived.Deep.AppendLies
import Derived.Maps.AppendAt
import Derived.Maps.OwnSet
import Derived.ChangeKeysEq
namespace Go.Proofs.Ytbahadgcmaabcaa
open Go.RowKit
abbrev SV (f : Nat → Int) : Value := .agg #[.int .u64 (f 0), .int .u64 (f 1), .int .u64 (f 2), .int .u64 (f 3)]
/-- Function k is one with a body: a call of it enters it. -/
def Enters (k : Nat) : Prop := ∀ (args : Array Value) (w : World), Sem.run Try.prog (callFunc k args) w = .ok (.enter k args) w
theorem enters52 : Enters 52 := fun _ _ => by kernel_rfl
theorem enters53 : Enters 53 := fun _ _ => by kernel_rfl
/-- What ofWords' words are behind j rounds. -/
def upto (f : Nat → Int) (j i : Nat) : Int := if i < j then f i else 0
theorem upto_set (f : Nat → Int) (j : Nat) (h : j < 4) : (#[Value.int .u64 (upto f j 0), .int .u64 (upto f j 1), .int .u64 (upto f j 2), .int .u64 (upto f j 3)] : Array Value).setIfInBounds j (.int .u64 (f j)) = #[Value.int .u64 (upto f (j+1) 0), .int .u64 (upto f (j+1) 1), .int .u64 (upto f (j+1) 2), .int .u64 (upto f (j+1) 3)] := by
  match j, h with
  | 0, _ => simp [upto]
  | 1, _ => simp [upto]
  | 2, _ => simp [upto]
  | 3, _ => simp [upto]
abbrev row4 (f : Nat → Int) : Array Value := #[.int .u64 (f 0), .int .u64 (f 1), .int .u64 (f 2), .int .u64 (f 3)]
theorem cell4 {w : World} {g : Nat} {f : Nat → Int} (h : w.heap[g]? = some (.cells (row4 f) 24 (0, 0))) (i : Nat) (hi : i < 4) : w.cell? ⟨g, i, none⟩ = some (.int .u64 (f i)) := by
  rw [cell_of_row w g i _ _ _ h]
  match i, hi with
  | 0, _ => rfl
  | 1, _ => rfl
  | 2, _ => rfl
  | 3, _ => rfl
theorem stored4 {w : World} {g : Nat} {z : Nat → Int} (f : Nat → Int) (h : w.heap[g]? = some (.cells (row4 z) 24 (0, 0))) :
    ((((w.setCell ⟨g, 0, none⟩ (.int .u64 (f 0))).setCell ⟨g, 1, none⟩ (.int .u64 (f 1))).setCell ⟨g, 2, none⟩ (.int .u64 (f 2))).setCell ⟨g, 3, none⟩ (.int .u64 (f 3))).heap[g]? = some (.cells (row4 f) 24 (0, 0)) := by
  have h1 := heap_setCell_same w g 0 _ _ (.int .u64 (f 0)) h
  have h2 := heap_setCell_same _ g 1 _ _ (.int .u64 (f 1)) h1
  have h3 := heap_setCell_same _ g 2 _ _ (.int .u64 (f 2)) h2
  have h4 := heap_setCell_same _ g 3 _ _ (.int .u64 (f 3)) h3
  rw [h4]; simp
theorem info24s : (Try.prog.info? 24).map (·.size) = some 4 := by kernel_rfl
theorem ret4 {fn : Func} {p : Tmp} (h : fn.results = #[.cell p 24]) {tmps : Array Value} {w : World} {g : Nat} {f : Nat → Int} (hp : tmps.getD p undef = .pointer (some ⟨g, 0, none⟩)) (hg : w.heap[g]? = some (.cells (row4 f) 24 (0, 0))) :
    (results fn tmps).run Try.prog w = .ok (SV f) w :=
  results_cell_row h tmps w g 24 _ _ _ hp hg Try.underlying24 rfl info24s
theorem get4 (f : Nat → Int) (i : Nat) (h : i < 4) : [Value.int .u64 (f 0), Value.int .u64 (f 1), Value.int .u64 (f 2), Value.int .u64 (f 3)][i]? = some (.int .u64 (f i)) := by
  match i, h with
  | 0, _ => rfl
  | 1, _ => rfl
  | 2, _ => rfl
  | 3, _ => rfl
/-- What Has answers. -/
def hasI (f : Nat → Int) (b : Int) : Bool := decide (0 ≤ b) && (decide (b < 256) && bits .and .u64 (f (b / 64).toNat / 2 ^ (b % 64).toNat) 1 == 1)
theorem hasI_out {f : Nat → Int} {b : Int} (h : ¬ (0 ≤ b ∧ b < 256)) : hasI f b = false := by
  unfold hasI
  by_cases h0 : 0 ≤ b
  · rw [decide_eq_false (by omega : ¬ b < 256)]; simp
  · rw [decide_eq_false h0]; simp
theorem hasI_in {f : Nat → Int} {b : Int} (h0 : 0 ≤ b) (h1 : b < 256) : hasI f b = (bits .and .u64 (f (b / 64).toNat / 2 ^ (b % 64).toNat) 1 == 1) := by
  unfold hasI; rw [decide_eq_true h0, decide_eq_true h1]; simp
theorem ret_bool {a b : Bool} (h : a = b) : Ending.returned (.bool a) = .returned (.bool b) := by rw [h]
set_option maxHeartbeats 400000 in
theorem refhas_any (f : Nat → Int) (b : Int) (w : World) :
    Calls Try.prog 16 #[SV f, .int .i64 b] w fun e w' => e = .returned (.bool (hasI f b)) ∧ Below w.heap.size w w' := by
  by_cases h0 : 0 ≤ b
  · by_cases h1 : b < 256
    · have hg := get4 f (b/64).toNat (by omega)
      have HX := Lib.hid (hasI_in (f := f) h0 h1)
      go_enter Try.func16, Try.ntmps16
      go_wp2
      go_ret
      exact ⟨ret_bool HX.out.symm, (Below.refl _ _).alloc (Nat.le_refl _) _⟩
    · have HX := Lib.hid (hasI_out (f := f) (b := b) (by omega))
      go_enter Try.func16, Try.ntmps16
      go_wp2
      go_ret
      exact ⟨ret_bool HX.out.symm, (Below.refl _ _).alloc (Nat.le_refl _) _⟩
  · have HX := Lib.hid (hasI_out (f := f) (b := b) (by omega))
    go_enter Try.func16, Try.ntmps16
    go_wp2
    go_ret
    exact ⟨ret_bool HX.out.symm, (Below.refl _ _).alloc (Nat.le_refl _) _⟩
theorem ret_int {k : IntKind} {a b : Int} (h : a = b) : Ending.returned (.int k a) = .returned (.int k b) := by rw [h]
theorem heap_alloc3_a (w : World) (A B C : Obj) : (((w.alloc A).alloc B).alloc C).heap[w.heap.size]? = some A := by
  rw [Below.heap_alloc _ _ _ (by simp; omega)]; exact heap_alloc2_old _ _ _
theorem heap_alloc3_b (w : World) (A B C : Obj) : (((w.alloc A).alloc B).alloc C).heap[w.heap.size + 1]? = some B := by
  rw [Below.heap_alloc _ _ _ (by simp)]; exact heap_alloc2_new _ _ _
theorem heap_alloc3_c (w : World) (A B C : Obj) : (((w.alloc A).alloc B).alloc C).heap[w.heap.size + 2]? = some C := by
  have := heap_alloc_new ((w.alloc A).alloc B) C
  simpa using this
/-- A word's first j bits, out of K. -/
def wordI (K : Int → Bool) (i : Nat) : Nat → Int
  | 0 => 0
  | j + 1 => if K ((i : Int) * 64 + (j : Int)) then bits .or .u64 (wordI K i j) (IntKind.u64.wrap (2 ^ j)) else wordI K i j
theorem wordI_no {K : Int → Bool} {i j : Nat} (h : K ((i : Int) * 64 + (j : Int)) = false) : wordI K i (j + 1) = wordI K i j := by
  show (if _ then _ else _) = _
  rw [h]; rfl
theorem wordI_yes {K : Int → Bool} {i j : Nat} (h : K ((i : Int) * 64 + (j : Int)) = true) : wordI K i (j + 1) = bits .or .u64 (wordI K i j) (IntKind.u64.wrap (2 ^ j)) := by
  show (if _ then _ else _) = _
  rw [h]; rfl
/-- The set of the bytes for which K says yes. -/
def byK (K : Int → Bool) (i : Nat) : Int := wordI K i 64
/-- What Of's closure answers. -/
def ofK (x y b : Int) : Bool := decide (x ≤ b) && decide (b ≤ y)
/-- A contract read from an elder world on. -/
theorem fromB {k : Nat} {args : Array Value} {w wx : World} {E : Ending} (h : Calls Try.prog k args wx fun e w' => e = E ∧ Below wx.heap.size wx w') (hB : Below w.heap.size w wx) :
    Calls Try.prog k args wx fun e w' => e = E ∧ Below w.heap.size w w' :=
  h.mono fun _ _ ⟨he, hb⟩ => ⟨he, hB.trans (hb.mono hB.size)⟩
theorem keep4 {w w1 : World} {p : Nat} {f : Nat → Int} (hpl : p < w.heap.size) (hc : w.heap[p]? = some (.cells (row4 f) 24 (0, 0))) (h : Below w.heap.size w w1) :
    Below w.heap.size w w1 ∧ w1.cell? ⟨p, 0, none⟩ = some (.int .u64 (f 0)) ∧ w1.cell? ⟨p, 1, none⟩ = some (.int .u64 (f 1)) ∧ w1.cell? ⟨p, 2, none⟩ = some (.int .u64 (f 2)) ∧ w1.cell? ⟨p, 3, none⟩ = some (.int .u64 (f 3)) := by
  have hc1 := (h.block p hpl).trans hc
  exact ⟨h, cell4 hc1 0 (by omega), cell4 hc1 1 (by omega), cell4 hc1 2 (by omega), cell4 hc1 3 (by omega)⟩
/-- The numbers below j for which K says yes. -/
def listI (K : Int → Bool) : Nat → List Int
  | 0 => []
  | j + 1 => if K (j : Int) then listI K j ++ [(j : Int)] else listI K j
theorem listI_yes {K : Int → Bool} {j : Nat} (h : K (j : Int) = true) : listI K (j + 1) = listI K j ++ [(j : Int)] := by
  show (if _ then _ else _) = _; rw [h]; rfl
theorem listI_no {K : Int → Bool} {j : Nat} (h : K (j : Int) = false) : listI K (j + 1) = listI K j := by
  show (if _ then _ else _) = _; rw [h]; rfl
theorem listI_le (K : Int → Bool) (j : Nat) : (listI K j).length ≤ j := by
  induction j with
  | zero => exact Nat.le_refl _
  | succ j ih =>
    cases h : K (j : Int)
    · rw [listI_no h]; omega
    · rw [listI_yes h]; simp; omega
theorem ownsRow_below {w w' : World} {base e size n : Nat} {v : Value} {xs : List Value} (h : w.ownsRow base e size v n xs) (hb : Below w.heap.size w w') : w'.ownsRow base e size v n xs := by
  obtain ⟨hl, h | ⟨g, cap, cur, hv, hg, hh, h1, h2, h3, h4⟩⟩ := h
  · exact ⟨hl, Or.inl h⟩
  · refine ⟨hl, Or.inr ⟨g, cap, cur, hv, hg, ?_, h1, h2, h3, h4⟩⟩
    rw [hb.block g (by rcases Nat.lt_or_ge g w.heap.size with h | h; exact h; rw [Array.getElem?_eq_none h] at hh; cases hh)]; exact hh
theorem ownsRow_base {w : World} {base base' e size n : Nat} {v : Value} {xs : List Value} (h : w.ownsRow base e size v n xs) (hb : base' ≤ base) : w.ownsRow base' e size v n xs := by
  obtain ⟨hl, h | ⟨g, cap, cur, hv, hg, hh, h1, h2, h3, h4⟩⟩ := h
  · exact ⟨hl, Or.inl h⟩
  · exact ⟨hl, Or.inr ⟨g, cap, cur, hv, by omega, hh, h1, h2, h3, h4⟩⟩
theorem own_ge {w : World} {base e size n : Nat} {v : Value} {xs : List Value} (h : w.ownsRow base e size v n xs) : ∀ k, v.ownBlock = some k → base ≤ k := by
  intro k hk
  obtain ⟨_, ⟨rfl, _⟩ | ⟨g, cap, cur, rfl, hg, _⟩⟩ := h
  · cases hk
  · cases hk; exact hg
/-- What a call that answers a slice of ints of its own comes to. -/
def GivesInts (w : World) (l : List Int) (e : Ending) (w' : World) : Prop :=
  ∃ v, e = .returned v ∧ w'.ownsRow w.heap.size 3 1 v l.length (l.map (Value.int .i64)) ∧ Below w.heap.size w w'
/-- The bytes of a set, rising. -/
def listS (f : Nat → Int) : List Int := listI (hasI f) 256
theorem info3 : (Try.prog.info? 3).map (fun i => (i.zero, i.size, i.bytes)) = some (some (.int .i64 0), 1, 8) := by kernel_rfl
/-- How many runs there are among the numbers below j, and the runs, first and last numbers in a row. -/
def cntR (K : Int → Bool) : Nat → Nat
  | 0 => 0
  | j + 1 => if K (j : Int) then (if K ((j : Int) - 1) then cntR K j else cntR K j + 1) else cntR K j
def flatR (K : Int → Bool) : Nat → List Int
  | 0 => []
  | j + 1 => if K (j : Int) then (if K ((j : Int) - 1) then (flatR K j).dropLast ++ [(j : Int)] else flatR K j ++ [(j : Int), (j : Int)]) else flatR K j
theorem flatR_no {K : Int → Bool} {j : Nat} (h : K (j : Int) = false) : flatR K (j + 1) = flatR K j ∧ cntR K (j + 1) = cntR K j := by
  constructor
  · show (if _ then _ else _) = _; rw [h]; rfl
  · show (if _ then _ else _) = _; rw [h]; rfl
theorem flatR_new {K : Int → Bool} {j : Nat} (h : K (j : Int) = true) (h' : K ((j : Int) - 1) = false) : flatR K (j + 1) = flatR K j ++ [(j : Int), (j : Int)] ∧ cntR K (j + 1) = cntR K j + 1 := by
  constructor
  · show (if _ then _ else _) = _; rw [h, h']; rfl
  · show (if _ then _ else _) = _; rw [h, h']; rfl
theorem flatR_on {K : Int → Bool} {j : Nat} (h : K (j : Int) = true) (h' : K ((j : Int) - 1) = true) : flatR K (j + 1) = (flatR K j).dropLast ++ [(j : Int)] ∧ cntR K (j + 1) = cntR K j := by
  constructor
  · show (if _ then _ else _) = _; rw [h, h']; rfl
  · show (if _ then _ else _) = _; rw [h, h']; rfl
theorem cntR_le (K : Int → Bool) (j : Nat) : cntR K j ≤ j := by
  induction j with
  | zero => exact Nat.le_refl _
  | succ j ih =>
    cases h : K (j : Int)
    · rw [(flatR_no h).2]; omega
    · cases h' : K ((j : Int) - 1)
      · rw [(flatR_new h h').2]; omega
      · rw [(flatR_on h h').2]; omega
theorem cntR_pos {K : Int → Bool} (hK : K (-1) = false) {j : Nat} (h : K ((j : Int) - 1) = true) : 0 < cntR K j := by
  cases j with
  | zero => simp at h; rw [hK] at h; cases h
  | succ j =>
    have h1 : K (j : Int) = true := by have e : (((j + 1 : Nat) : Int) - 1) = (j : Int) := by omega
                                       rw [e] at h; exact h
    clear h
    induction j with
    | zero => rw [(flatR_new h1 (by simpa using hK)).2]; omega
    | succ j ih =>
      cases h' : K (((j + 1 : Nat) : Int) - 1)
      · rw [(flatR_new h1 h').2]; omega
      · rw [(flatR_on h1 h').2]
        exact ih (by have e : (((j + 1 : Nat) : Int) - 1) = (j : Int) := by omega
                     rw [e] at h'; exact h')
def runsS (f : Nat → Int) : List Int := flatR (hasI f) 256
def runsN (f : Nat → Int) : Nat := cntR (hasI f) 256
theorem take_set_last (l : List Value) (k : Nat) (x : Value) (h0 : 0 < k) (h : k ≤ l.length) : (l.set (k - 1) x).take k = (l.take k).dropLast ++ [x] := by
  rw [List.take_set]
  obtain ⟨m, rfl⟩ : ∃ m, k = m + 1 := ⟨k - 1, by omega⟩
  simp only [Nat.add_sub_cancel]
  have hl : m < l.length := by omega
  rw [List.take_succ_eq_append_getElem hl, List.dropLast_concat]
  rw [List.set_append_right _ _ (by simp; omega)]
  simp [Nat.min_eq_left (Nat.le_of_lt hl)]
/-- Are two sets the same, word by word? -/
def eqS (f g : Nat → Int) : Bool := (f 0 == g 0) && ((f 1 == g 1) && ((f 2 == g 2) && (f 3 == g 3)))
theorem guard24 : Try.prog.eqGuardType Try.prog.depth 24 = false := by kernel_rfl
theorem info22 : (Try.prog.info? 22).map (fun i => (i.zero, i.size, i.bytes)) = some (some (.int .u64 0), 1, 8) := by kernel_rfl
theorem cells22 : Try.prog.cellsOf 22 = 1 := by kernel_rfl
theorem cells3 : Try.prog.cellsOf 3 = 1 := by kernel_rfl
theorem eql24 (f g : Nat → Int) (w : World) : Sem.run Try.prog (binOp .eql 24 (SV f) (SV g)) w = .ok (.bool (eqS f g)) w := by
  obtain ⟨i0, hi, _, _, _⟩ := info_parts info22
  rw [run_eql_struct, run_equalIn_array w 9999 _ _ Try.underlying24 hi, cells22]
  have h0 : ∀ w, (part 22 (row4 f) 0).run Try.prog w = .ok (.int .u64 (f 0)) w := fun _ => by kernel_rfl
  have h1 : ∀ w, (part 22 (row4 f) 1).run Try.prog w = .ok (.int .u64 (f 1)) w := fun _ => by kernel_rfl
  have h2 : ∀ w, (part 22 (row4 f) 2).run Try.prog w = .ok (.int .u64 (f 2)) w := fun _ => by kernel_rfl
  have h3 : ∀ w, (part 22 (row4 f) 3).run Try.prog w = .ok (.int .u64 (f 3)) w := fun _ => by kernel_rfl
  have k0 : ∀ w, (part 22 (row4 g) 0).run Try.prog w = .ok (.int .u64 (g 0)) w := fun _ => by kernel_rfl
  have k1 : ∀ w, (part 22 (row4 g) 1).run Try.prog w = .ok (.int .u64 (g 1)) w := fun _ => by kernel_rfl
  have k2 : ∀ w, (part 22 (row4 g) 2).run Try.prog w = .ok (.int .u64 (g 2)) w := fun _ => by kernel_rfl
  have k3 : ∀ w, (part 22 (row4 g) 3).run Try.prog w = .ok (.int .u64 (g 3)) w := fun _ => by kernel_rfl
  have e0 : ∀ (a b : Int) w, (Op.equalIn 9999 22 (.int .u64 a) (.int .u64 b)).run Try.prog w = .ok (a == b) w := fun a b w => run_equalIn_int w 9998 22 .u64 .u64 a b Try.underlying22
  have hr : List.range 4 = [0, 1, 2, 3] := rfl
  rw [hr]
  show (Sem.run Try.prog (Op.eqItems 9999 22 1 (row4 f) (row4 g) [0, 1, 2, 3]) w).andThen _ = _
  clear hi
  by_cases p0 : f 0 = g 0 <;> by_cases p1 : f 1 = g 1 <;> by_cases p2 : f 2 = g 2 <;> by_cases p3 : f 3 = g 3 <;> simp [Op.eqItems, eqS, *]
theorem row_cells {w : World} {base e size n : Nat} {v : Value} {xs : List Value} (h : w.ownsRow base e size v n xs) (hn : 0 < n) :
    ∃ g cap, v = .slice (some ⟨g, 0, none⟩) n cap ∧ base ≤ g ∧ g < w.heap.size ∧ n ≤ cap ∧ cap ≤ maxLen ∧ ∀ j u, xs[j]? = some u → w.cell? ⟨g, j, none⟩ = some u := by
  obtain ⟨hl, ⟨_, h0⟩ | ⟨g, cap, cur, hv, hg, hh, h1, h2, h3, h4⟩⟩ := h
  · omega
  · refine ⟨g, cap, hv, hg, ?_, h1, h2, fun j u hu => ?_⟩
    · rcases Nat.lt_or_ge g w.heap.size with h | h
      · exact h
      · rw [Array.getElem?_eq_none h] at hh; cases hh
    · rw [cell_of_row _ _ _ _ _ _ hh]
      have hj : j < n * size := by
        rcases Nat.lt_or_ge j (n * size) with h | h
        · exact h
        · rw [List.getElem?_eq_none (by omega)] at hu; cases hu
      rw [← h4, List.getElem?_take, if_pos hj] at hu
      simpa using hu
theorem row_slice {w : World} {base e size n : Nat} {v : Value} {xs : List Value} (h : w.ownsRow base e size v n xs) : ∃ a c, v = .slice a n c := by
  obtain ⟨_, ⟨rfl, rfl⟩ | ⟨g, cap, cur, rfl, _⟩⟩ := h
  · exact ⟨_, _, rfl⟩
  · exact ⟨_, _, rfl⟩
end Go.Proofs.Ytbahadgcmaabcaa
/- Sets of bytes: the document's own Of, Not and Runs: contracts; which bytes are in what is made; the mathematics of runs. No conditions. Carried over from stage 1. -/
namespace Go.Proofs.Ytbahadgcmaabcaa
open Go.RowKit
/-- Four words of 64 bits. -/
def Wf (f : Nat → Int) : Prop := ∀ i, i < 4 → 0 ≤ f i ∧ f i < 18446744073709551616
theorem nat_of {x : Int} (h : 0 ≤ x ∧ x < 18446744073709551616) : ∃ n : Nat, x = (n : Int) ∧ n < 18446744073709551616 := ⟨x.toNat, by omega, by omega⟩
theorem and1_bit {x : Int} (h : 0 ≤ x ∧ x < 18446744073709551616) (k : Nat) : (bits .and .u64 (x / 2 ^ k) 1 == 1) = x.toNat.testBit k := by
  obtain ⟨n, rfl, hn⟩ := nat_of h
  have e1 : ((n : Int) / 2 ^ k) = ((n / 2 ^ k : Nat) : Int) := by simp
  have hl : n / 2 ^ k < 18446744073709551616 := Nat.lt_of_le_of_lt (Nat.div_le_self _ _) hn
  rw [e1, show (1 : Int) = ((1 : Nat) : Int) from rfl, u64_and_nat _ _ hl (by omega), Nat.and_one_is_mod, Int.toNat_natCast, Nat.testBit_eq_decide_div_mod_eq]
  rw [Bool.eq_iff_iff]; simp; omega
theorem or_bit {x y : Int} (hx : 0 ≤ x ∧ x < 18446744073709551616) (hy : 0 ≤ y ∧ y < 18446744073709551616) :
    (0 ≤ bits .or .u64 x y ∧ bits .or .u64 x y < 18446744073709551616) ∧ ∀ k, (bits .or .u64 x y).toNat.testBit k = (x.toNat.testBit k || y.toNat.testBit k) := by
  obtain ⟨n, rfl, hn⟩ := nat_of hx
  obtain ⟨m, rfl, hm⟩ := nat_of hy
  rw [u64_or_nat _ _ hn hm]
  have := Nat.or_lt_two_pow (n := 64) hn hm
  exact ⟨by omega, fun k => by simp⟩
theorem umax : IntKind.u64.max = ((18446744073709551615 : Nat) : Int) := by decide +kernel
theorem not_bit {x : Int} (hx : 0 ≤ x ∧ x < 18446744073709551616) :
    (0 ≤ bits .xor .u64 IntKind.u64.max x ∧ bits .xor .u64 IntKind.u64.max x < 18446744073709551616) ∧ ∀ k, (bits .xor .u64 IntKind.u64.max x).toNat.testBit k = (decide (k < 64) ^^ x.toNat.testBit k) := by
  obtain ⟨n, rfl, hn⟩ := nat_of hx
  rw [umax, u64_xor_nat _ _ (by omega) hn]
  have := Nat.xor_lt_two_pow (x := 18446744073709551615) (n := 64) (by omega) hn
  refine ⟨by omega, fun k => ?_⟩
  rw [Int.toNat_natCast, Nat.testBit_xor, show 18446744073709551615 = 2 ^ 64 - 1 from rfl, Nat.testBit_two_pow_sub_one, Int.toNat_natCast]
theorem pow_wrap {j : Nat} (h : j < 64) : IntKind.u64.wrap (2 ^ j) = ((2 ^ j : Nat) : Int) ∧ 2 ^ j < 18446744073709551616 := by
  have h1 : 2 ^ j < 2 ^ 64 := Nat.pow_lt_pow_right (by omega) h
  refine ⟨?_, h1⟩
  rw [IntKind.wrap_u64, show ((2 : Int) ^ j) = ((2 ^ j : Nat) : Int) from by simp]
  generalize 2 ^ j = m at *
  omega
theorem wordI_bit (K : Int → Bool) (i : Nat) : ∀ j, j ≤ 64 → (0 ≤ wordI K i j ∧ wordI K i j < 18446744073709551616) ∧ ∀ k, (wordI K i j).toNat.testBit k = (decide (k < j) && K ((i : Int) * 64 + (k : Int)))
  | 0, _ => ⟨by simp [wordI], fun k => by simp [wordI]⟩
  | j + 1, h => by
    obtain ⟨ih1, ih2⟩ := wordI_bit K i j (by omega)
    cases hK : K ((i : Int) * 64 + (j : Int))
    · rw [wordI_no hK]
      refine ⟨ih1, fun k => ?_⟩
      rw [ih2]
      by_cases e : k = j
      · subst e; simp [hK]
      · have : decide (k < j) = decide (k < j + 1) := by rw [decide_eq_decide]; omega
        rw [this]
    · rw [wordI_yes hK]
      obtain ⟨p1, p2⟩ := pow_wrap (j := j) (by omega)
      rw [p1]
      obtain ⟨o1, o2⟩ := or_bit ih1 (y := ((2 ^ j : Nat) : Int)) (by generalize 2 ^ j = m at *; omega)
      refine ⟨o1, fun k => ?_⟩
      rw [o2, ih2, Int.toNat_natCast, Nat.testBit_two_pow]
      by_cases e : j = k
      · subst e; simp [hK]
      · have : decide (k < j) = decide (k < j + 1) := by rw [decide_eq_decide]; omega
        rw [this]; simp [e]
theorem hasI_bit {f : Nat → Int} (hf : Wf f) {b : Int} (h0 : 0 ≤ b) (h1 : b < 256) : hasI f b = (f (b / 64).toNat).toNat.testBit (b % 64).toNat := by
  rw [hasI_in h0 h1, and1_bit (hf _ (by omega))]
theorem wf_byK (K : Int → Bool) : Wf (byK K) := fun i _ => (wordI_bit K i 64 (by omega)).1
theorem hasI_byK (K : Int → Bool) {b : Int} (h0 : 0 ≤ b) (h1 : b < 256) : hasI (byK K) b = K b := by
  rw [hasI_bit (wf_byK K) h0 h1]
  refine ((wordI_bit K _ 64 (by omega)).2 _).trans ?_
  rw [decide_eq_true (by omega : (b % 64).toNat < 64), Bool.true_and]
  congr 1; omega
theorem ext_word {f g : Nat → Int} (hf : Wf f) (hg : Wf g) (h : ∀ b : Int, 0 ≤ b → b < 256 → hasI f b = hasI g b) (i : Nat) (hi : i < 4) : f i = g i := by
  have e : (f i).toNat = (g i).toNat := by
    refine Nat.eq_of_testBit_eq fun k => ?_
    by_cases hk : k < 64
    · have := h ((i : Int) * 64 + (k : Int)) (by omega) (by omega)
      rw [hasI_bit hf (by omega) (by omega), hasI_bit hg (by omega) (by omega)] at this
      have e1 : (((i : Int) * 64 + (k : Int)) / 64).toNat = i := by omega
      have e2 : (((i : Int) * 64 + (k : Int)) % 64).toNat = k := by omega
      rw [e1, e2] at this; exact this
    · have l : ∀ x : Int, 0 ≤ x ∧ x < 18446744073709551616 → x.toNat.testBit k = false := fun x hx => by
        refine Nat.testBit_lt_two_pow ?_
        have h2 : 2 ^ 64 ≤ 2 ^ k := Nat.pow_le_pow_right (by omega) (by omega)
        have h3 : (2 : Nat) ^ 64 = 18446744073709551616 := rfl
        rw [h3] at h2
        generalize 2 ^ k = m at *
        omega
      rw [l _ (hf i hi), l _ (hg i hi)]
  have a := hf i hi
  have b := hg i hi
  omega
theorem ext_eqS {f g : Nat → Int} (hf : Wf f) (hg : Wf g) (h : ∀ b : Int, 0 ≤ b → b < 256 → hasI f b = hasI g b) : eqS f g = true := by
  have := ext_word hf hg h
  simp [eqS, this 0 (by omega), this 1 (by omega), this 2 (by omega), this 3 (by omega)]
/-- A set with the byte b. -/
def addS (f : Nat → Int) (b : Int) (i : Nat) : Int := if i = (b / 64).toNat then bits .or .u64 (f (b / 64).toNat) (IntKind.u64.wrap (2 ^ (b % 64).toNat)) else f i
theorem row_set (f : Nat → Int) (i : Nat) (hi : i < 4) (x : Int) : (row4 f).setIfInBounds i (.int .u64 x) = row4 fun j => if j = i then x else f j := by
  match i, hi with
  | 0, _ => simp
  | 1, _ => simp
  | 2, _ => simp
  | 3, _ => simp
set_option maxHeartbeats 400000 in
theorem add_any (f : Nat → Int) (b : Int) (h0 : 0 ≤ b) (h1 : b < 256) (w : World) :
    Calls Try.prog 43 #[SV f, .int .i64 b] w fun e w' => e = .returned (SV (addS f b)) ∧ Below w.heap.size w w' := by
  have hq : 0 ≤ b / 64 := by omega
  have hq4 : b / 64 < 4 := by omega
  have hr : 0 ≤ b % 64 := by omega
  go_enter Try.func43, Try.ntmps43
  go_wp2
  have HP := Lib.hid (heap_alloc2_old w (.cells (row4 f) 24 (0, 0)) (.cells (row4 fun _ => 0) 24 (0, 0)))
  have HQ := Lib.hid (heap_alloc2_new w (.cells (row4 f) 24 (0, 0)) (.cells (row4 fun _ => 0) 24 (0, 0)))
  have hB : Below w.heap.size w ((w.alloc (.cells (row4 f) 24 (0, 0))).alloc (.cells (row4 fun _ => 0) 24 (0, 0))) := ((Below.refl _ _).alloc (Nat.le_refl _) _).alloc (by simp) _
  generalize (w.alloc (.cells (row4 f) 24 (0, 0))).alloc (.cells (row4 fun _ => 0) 24 (0, 0)) = w2 at *
  have cp := cell4 HP.out (b / 64).toNat (by omega)
  have fp := frozen_of_row _ _ (b / 64).toNat _ _ HP.out
  have HS : Hid ((w2.setCell ⟨w.heap.size, (b / 64).toNat, none⟩ (.int .u64 (bits .or .u64 (f (b / 64).toNat) (IntKind.u64.wrap (2 ^ (b % 64).toNat))))).heap[w.heap.size]? = some (.cells (row4 (addS f b)) 24 (0, 0))) :=
    Lib.hid ((heap_setCell_same w2 _ _ _ _ _ HP.out).trans (by rw [row_set f _ (by omega)]; rfl))
  have HT := Lib.hid ((heap_setCell_other w2 ⟨w.heap.size, (b / 64).toNat, none⟩ (w.heap.size + 1) (.int .u64 (bits .or .u64 (f (b / 64).toNat) (IntKind.u64.wrap (2 ^ (b % 64).toNat)))) (by dsimp only; omega)).trans HQ.out)
  have hB2 := Lib.hid (hB.setCell (p := ⟨w.heap.size, (b / 64).toNat, none⟩) (Nat.le_refl _) (.int .u64 (bits .or .u64 (f (b / 64).toNat) (IntKind.u64.wrap (2 ^ (b % 64).toNat)))))
  go_region
  clear cp fp hB HP HQ
  generalize w2.setCell ⟨w.heap.size, (b / 64).toNat, none⟩ (.int .u64 (bits .or .u64 (f (b / 64).toNat) (IntKind.u64.wrap (2 ^ (b % 64).toNat)))) = w3 at *
  have c0 := cell4 HS.out 0 (by omega)
  have c1 := cell4 HS.out 1 (by omega)
  have c2 := cell4 HS.out 2 (by omega)
  have c3 := cell4 HS.out 3 (by omega)
  have d0 := cell4 HT.out 0 (by omega)
  have d1 := cell4 HT.out 1 (by omega)
  have d2 := cell4 HT.out 2 (by omega)
  have d3 := cell4 HT.out 3 (by omega)
  have f0 := frozen_of_row _ _ 0 _ _ HT.out
  have f1 := frozen_of_row _ _ 1 _ _ HT.out
  have f2 := frozen_of_row _ _ 2 _ _ HT.out
  have f3 := frozen_of_row _ _ 3 _ _ HT.out
  have HR := Lib.hid (stored4 (addS f b) HT.out)
  go_wp2
  refine bodyPost_ret (v := SV (addS f b)) (ret4 Try.results43 rfl (by exact HR.out)) rfl ⟨rfl, ?_⟩
  exact ((((hB2.out.setCell (by simp) _).setCell (by simp) _).setCell (by simp) _).setCell (by simp) _).drew
/-- The set of the bytes below j for which K says yes, byte by byte. -/
def accS (K : Int → Bool) : Nat → Nat → Int
  | 0 => fun _ => 0
  | j + 1 => if K (j : Int) then addS (accS K j) (j : Int) else accS K j
theorem accS_yes {K : Int → Bool} {j : Nat} (h : K (j : Int) = true) : accS K (j + 1) = addS (accS K j) (j : Int) := by
  show (if _ then _ else _) = _; rw [h]; rfl
theorem accS_no {K : Int → Bool} {j : Nat} (h : K (j : Int) = false) : accS K (j + 1) = accS K j := by
  show (if _ then _ else _) = _; rw [h]; rfl
def accAll (K : Int → Bool) : Nat → Int := accS K 256
/-- The world behind a set's being stored in block g. -/
abbrev put4 (w : World) (g : Nat) (f : Nat → Int) : World := (((w.setCell ⟨g, 0, none⟩ (.int .u64 (f 0))).setCell ⟨g, 1, none⟩ (.int .u64 (f 1))).setCell ⟨g, 2, none⟩ (.int .u64 (f 2))).setCell ⟨g, 3, none⟩ (.int .u64 (f 3))
theorem put4_other (w : World) (g k : Nat) (f : Nat → Int) (h : k ≠ g) : (put4 w g f).heap[k]? = w.heap[k]? := by
  rw [heap_setCell_other _ _ _ _ h, heap_setCell_other _ _ _ _ h, heap_setCell_other _ _ _ _ h, heap_setCell_other _ _ _ _ h]
theorem put4_below {w0 w : World} {B g : Nat} (f : Nat → Int) (h : Below B w0 w) (hg : B ≤ g) : Below B w0 (put4 w g f) :=
  (((h.setCell hg _).setCell hg _).setCell hg _).setCell hg _
theorem put4_size (w : World) (g : Nat) (f : Nat → Int) : (put4 w g f).heap.size = w.heap.size := by simp
set_option maxRecDepth 100000 in
set_option maxHeartbeats 1000000 in
theorem refof_any (x y : Int) (w : World) :
    Calls Try.prog 28 #[.int .i64 x, .int .i64 y] w fun e w' => e = .returned (SV (accAll (ofK x y))) ∧ Below w.heap.size w w' := by
  go_enter Try.func28, Try.ntmps28
  go_wp2
  go_loopw [6] (fun c wr => ∃ j : Nat, j ≤ 256 ∧ c = .int .i64 j ∧ wr.heap[w.heap.size]? = some (.cells (row4 fun _ => 0) 24 (0, 0)) ∧ wr.heap[w.heap.size + 1]? = some (.cells (row4 (accS (ofK x y) j)) 24 (0, 0)) ∧ w.heap.size + 2 ≤ wr.heap.size ∧ Below w.heap.size w wr) (fun c _ => 256 - (intOf c).toNat)
  case atStart => exact ⟨0, by omega, rfl, heap_alloc2_old _ _ _, heap_alloc2_new _ _ _, by simp, ((Below.refl _ _).alloc (Nat.le_refl _) _).alloc (by simp) _⟩
  case round =>
    obtain ⟨j, hj, rfl, hr, hs, hl, hb⟩ := hrel
    by_cases hlt : j < 256
    · have HR := Lib.hid hr
      have HS := Lib.hid hs
      by_cases hxj : x ≤ (j : Int)
      · by_cases hyj : (j : Int) ≤ y
        · have HK := Lib.hid (accS_yes (K := ofK x y) (j := j) (by simp [ofK, hxj, hyj]))
          have c0 := cell4 hs 0 (by omega)
          have c1 := cell4 hs 1 (by omega)
          have c2 := cell4 hs 2 (by omega)
          have c3 := cell4 hs 3 (by omega)
          clear hr hs
          go_wp2_with fail
          refine (add_any (accS (ofK x y) j) (j : Int) (by omega) (by omega) _).mono ?_
          rintro e w1 ⟨rfl, hb1⟩
          have hs1 := (hb1.block (w.heap.size + 1) (by omega)).trans HS.out
          have HR1 := Lib.hid ((hb1.block w.heap.size (by omega)).trans HR.out)
          have hB1 : Below w.heap.size w w1 := hb.trans (hb1.mono hb.size)
          have hl1 : w.heap.size + 2 ≤ w1.heap.size := Nat.le_trans hl hb1.size
          clear c0 c1 c2 c3 hb hl hb1 HR HS
          have d0 := cell4 hs1 0 (by omega)
          have d1 := cell4 hs1 1 (by omega)
          have d2 := cell4 hs1 2 (by omega)
          have d3 := cell4 hs1 3 (by omega)
          have f0 := frozen_of_row _ _ 0 _ _ hs1
          have f1 := frozen_of_row _ _ 1 _ _ hs1
          have f2 := frozen_of_row _ _ 2 _ _ hs1
          have f3 := frozen_of_row _ _ 3 _ _ hs1
          have HS1 := Lib.hid hs1
          clear hs1
          go_wp2
          go_roundw
          case rel => exact ⟨j + 1, by omega, by go_num, (put4_other w1 _ _ _ (by omega)).trans HR1.out, by rw [HK.out]; exact stored4 _ HS1.out, by rw [put4_size]; exact hl1, put4_below _ hB1 (by omega)⟩
          case measure => simp [intOf]; omega
        · have HK := Lib.hid (accS_no (K := ofK x y) (j := j) (by simp [ofK]; omega))
          clear hr hs
          go_wp2
          go_roundw
          case rel => exact ⟨j + 1, by omega, by go_num, HR.out, by rw [HK.out]; exact HS.out, hl, hb⟩
          case measure => simp [intOf]; omega
      · have HK := Lib.hid (accS_no (K := ofK x y) (j := j) (by simp [ofK]; omega))
        clear hr hs
        go_wp2
        go_roundw
        case rel => exact ⟨j + 1, by omega, by go_num, HR.out, by rw [HK.out]; exact HS.out, hl, hb⟩
        case measure => simp [intOf]; omega
    · obtain rfl : j = 256 := by omega
      have c0 := cell4 hs 0 (by omega)
      have c1 := cell4 hs 1 (by omega)
      have c2 := cell4 hs 2 (by omega)
      have c3 := cell4 hs 3 (by omega)
      have d0 := cell4 hr 0 (by omega)
      have d1 := cell4 hr 1 (by omega)
      have d2 := cell4 hr 2 (by omega)
      have d3 := cell4 hr 3 (by omega)
      have f0 := frozen_of_row _ _ 0 _ _ hr
      have f1 := frozen_of_row _ _ 1 _ _ hr
      have f2 := frozen_of_row _ _ 2 _ _ hr
      have f3 := frozen_of_row _ _ 3 _ _ hr
      have HR := Lib.hid (stored4 (accS (ofK x y) 256) hr)
      clear hr hs
      go_wp2
      refine bodyPost_ret (v := SV (accAll (ofK x y))) (ret4 Try.results28 rfl HR.out) rfl ⟨rfl, ?_⟩
      exact put4_below (accS (ofK x y) 256) hb (Nat.le_refl _)
theorem heap_alloc4_a (w : World) (A B C D : Obj) : ((((w.alloc A).alloc B).alloc C).alloc D).heap[w.heap.size]? = some A := by
  rw [Below.heap_alloc _ _ _ (by simp; omega)]; exact heap_alloc3_a _ _ _ _
theorem heap_alloc4_b (w : World) (A B C D : Obj) : ((((w.alloc A).alloc B).alloc C).alloc D).heap[w.heap.size + 1]? = some B := by
  rw [Below.heap_alloc _ _ _ (by simp)]; exact heap_alloc3_b _ _ _ _
theorem heap_alloc4_c (w : World) (A B C D : Obj) : ((((w.alloc A).alloc B).alloc C).alloc D).heap[w.heap.size + 2]? = some C := by
  rw [Below.heap_alloc _ _ _ (by simp)]; exact heap_alloc3_c _ _ _ _
theorem heap_alloc4_d (w : World) (A B C D : Obj) : ((((w.alloc A).alloc B).alloc C).alloc D).heap[w.heap.size + 3]? = some D := by
  have := heap_alloc_new (((w.alloc A).alloc B).alloc C) D
  simpa using this
theorem below_alloc3 (w : World) (A B C : Obj) : Below w.heap.size w (((w.alloc A).alloc B).alloc C) :=
  (((Below.refl _ _).alloc (Nat.le_refl _) _).alloc (by simp) _).alloc (by simp; omega) _
theorem below_alloc4 (w : World) (A B C D : Obj) : Below w.heap.size w ((((w.alloc A).alloc B).alloc C).alloc D) :=
  (below_alloc3 w A B C).alloc (by simp; omega) _
set_option maxRecDepth 100000 in
set_option maxHeartbeats 4000000 in
theorem refnot_any (f : Nat → Int) (w : World) :
    Calls Try.prog 50 #[SV f] w fun e w' => e = .returned (SV (accAll (fun b => !hasI f b))) ∧ Below w.heap.size w w' := by
  go_enter Try.func50, Try.ntmps50
  go_wp2
  go_loopw [4] (fun c wr => ∃ j : Nat, j ≤ 256 ∧ c = .int .i64 j ∧ wr.heap[w.heap.size]? = some (.cells (row4 f) 24 (0, 0)) ∧ wr.heap[w.heap.size + 1]? = some (.cells (row4 fun _ => 0) 24 (0, 0)) ∧ wr.heap[w.heap.size + 2]? = some (.cells (row4 (accS (fun b => !hasI f b) j)) 24 (0, 0)) ∧ w.heap.size + 3 ≤ wr.heap.size ∧ Below w.heap.size w wr) (fun c _ => 256 - (intOf c).toNat)
  case atStart => exact ⟨0, by omega, rfl, heap_alloc3_a _ _ _ _, heap_alloc3_b _ _ _ _, heap_alloc3_c _ _ _ _, by simp, below_alloc3 _ _ _ _⟩
  case round =>
    obtain ⟨j, hj, rfl, h0, h1, h2, hl, hb⟩ := hrel
    by_cases hlt : j < 256
    · have H0 := Lib.hid h0
      have H1 := Lib.hid h1
      have H2 := Lib.hid h2
      clear h0 h1 h2
      cases hx : hasI f (j : Int)
      · skip
        have HK := Lib.hid (accS_yes (K := fun b => !hasI f b) (j := j) (by simp [hx]))
        have c0 := cell4 H0.out 0 (by omega)
        have c1 := cell4 H0.out 1 (by omega)
        have c2 := cell4 H0.out 2 (by omega)
        have c3 := cell4 H0.out 3 (by omega)
        go_wp2_with fail
        refine (refhas_any f (j : Int) _).mono ?_
        rintro e w1 ⟨rfl, hc1⟩
        clear c0 c1 c2 c3
        have H0q1 := Lib.hid ((hc1.block (w.heap.size) (by omega)).trans H0.out)
        have H1q1 := Lib.hid ((hc1.block (w.heap.size + 1) (by omega)).trans H1.out)
        have H2q1 := Lib.hid ((hc1.block (w.heap.size + 2) (by omega)).trans H2.out)
        have hbq1 : Below w.heap.size w w1 := hb.trans (hc1.mono hb.size)
        have hlq1 : w.heap.size + 3 ≤ w1.heap.size := Nat.le_trans hl hc1.size
        clear H0 H1 H2 hb hl hc1
        have c0 := cell4 H2q1.out 0 (by omega)
        have c1 := cell4 H2q1.out 1 (by omega)
        have c2 := cell4 H2q1.out 2 (by omega)
        have c3 := cell4 H2q1.out 3 (by omega)
        go_wp2_with fail
        refine (add_any (accS (fun b => !hasI f b) j) (j : Int) (by omega) (by omega) _).mono ?_
        rintro e w2 ⟨rfl, hc2⟩
        clear c0 c1 c2 c3
        have H0q2 := Lib.hid ((hc2.block (w.heap.size) (by omega)).trans H0q1.out)
        have H1q2 := Lib.hid ((hc2.block (w.heap.size + 1) (by omega)).trans H1q1.out)
        have H2q2 := Lib.hid ((hc2.block (w.heap.size + 2) (by omega)).trans H2q1.out)
        have hbq2 : Below w.heap.size w w2 := hbq1.trans (hc2.mono hbq1.size)
        have hlq2 : w.heap.size + 3 ≤ w2.heap.size := Nat.le_trans hlq1 hc2.size
        clear H0q1 H1q1 H2q1 hbq1 hlq1 hc2
        have c0 := cell4 H2q2.out 0 (by omega)
        have c1 := cell4 H2q2.out 1 (by omega)
        have c2 := cell4 H2q2.out 2 (by omega)
        have c3 := cell4 H2q2.out 3 (by omega)
        have f0 := frozen_of_row _ _ 0 _ _ H2q2.out
        have f1 := frozen_of_row _ _ 1 _ _ H2q2.out
        have f2 := frozen_of_row _ _ 2 _ _ H2q2.out
        have f3 := frozen_of_row _ _ 3 _ _ H2q2.out
        go_wp2
        go_roundw
        case rel => exact ⟨j + 1, by omega, by go_num, (put4_other w2 _ _ _ (by omega)).trans H0q2.out, (put4_other w2 _ _ _ (by omega)).trans H1q2.out, by rw [HK.out]; exact stored4 _ H2q2.out, by rw [put4_size]; exact hlq2, put4_below _ hbq2 (by omega)⟩
        case measure => simp [intOf]; omega
      · skip
        have HK := Lib.hid (accS_no (K := fun b => !hasI f b) (j := j) (by simp [hx]))
        have c0 := cell4 H0.out 0 (by omega)
        have c1 := cell4 H0.out 1 (by omega)
        have c2 := cell4 H0.out 2 (by omega)
        have c3 := cell4 H0.out 3 (by omega)
        go_wp2_with fail
        refine (refhas_any f (j : Int) _).mono ?_
        rintro e w1 ⟨rfl, hc1⟩
        clear c0 c1 c2 c3
        have H0q1 := Lib.hid ((hc1.block (w.heap.size) (by omega)).trans H0.out)
        have H1q1 := Lib.hid ((hc1.block (w.heap.size + 1) (by omega)).trans H1.out)
        have H2q1 := Lib.hid ((hc1.block (w.heap.size + 2) (by omega)).trans H2.out)
        have hbq1 : Below w.heap.size w w1 := hb.trans (hc1.mono hb.size)
        have hlq1 : w.heap.size + 3 ≤ w1.heap.size := Nat.le_trans hl hc1.size
        clear H0 H1 H2 hb hl hc1
        go_wp2
        go_roundw
        case rel => exact ⟨j + 1, by omega, by go_num, H0q1.out, H1q1.out, by rw [HK.out]; exact H2q1.out, hlq1, hbq1⟩
        case measure => simp [intOf]; omega
    · obtain rfl : j = 256 := by omega
      have c0 := cell4 h2 0 (by omega)
      have c1 := cell4 h2 1 (by omega)
      have c2 := cell4 h2 2 (by omega)
      have c3 := cell4 h2 3 (by omega)
      have d0 := cell4 h1 0 (by omega)
      have d1 := cell4 h1 1 (by omega)
      have d2 := cell4 h1 2 (by omega)
      have d3 := cell4 h1 3 (by omega)
      have f0 := frozen_of_row _ _ 0 _ _ h1
      have f1 := frozen_of_row _ _ 1 _ _ h1
      have f2 := frozen_of_row _ _ 2 _ _ h1
      have f3 := frozen_of_row _ _ 3 _ _ h1
      have HR := Lib.hid (stored4 (accS (fun b => !hasI f b) 256) h1)
      clear h0 h1 h2
      go_wp2
      refine bodyPost_ret (v := SV (accAll (fun b => !hasI f b))) (ret4 Try.results50 rfl HR.out) rfl ⟨rfl, ?_⟩
      exact put4_below (accS (fun b => !hasI f b) 256) hb (by omega)
theorem wf0 : Wf fun _ => 0 := fun _ _ => by simp
theorem hasI_0 {b : Int} (h0 : 0 ≤ b) (h1 : b < 256) : hasI (fun _ => 0) b = false := by
  rw [hasI_bit wf0 h0 h1]; simp
theorem pow_ok (k : Nat) (h : k < 64) : 0 ≤ IntKind.u64.wrap (2 ^ k) ∧ IntKind.u64.wrap (2 ^ k) < 18446744073709551616 := by
  obtain ⟨p1, p2⟩ := pow_wrap h
  rw [p1]
  generalize 2 ^ k = m at *
  omega
theorem wf_add {f : Nat → Int} (hf : Wf f) {b : Int} (_h0 : 0 ≤ b) (_h1 : b < 256) : Wf (addS f b) := by
  intro i hi
  unfold addS
  by_cases e : i = (b / 64).toNat
  · rw [if_pos e]; exact (or_bit (hf _ (by omega)) (pow_ok _ (by omega))).1
  · rw [if_neg e]; exact hf i hi
theorem hasI_add {f : Nat → Int} (hf : Wf f) {b c : Int} (h0 : 0 ≤ b) (h1 : b < 256) (g0 : 0 ≤ c) (g1 : c < 256) : hasI (addS f b) c = (hasI f c || decide (c = b)) := by
  rw [hasI_bit (wf_add hf h0 h1) g0 g1, hasI_bit hf g0 g1]
  unfold addS
  by_cases e : (c / 64).toNat = (b / 64).toNat
  · rw [if_pos e, (or_bit (hf _ (by omega)) (pow_ok _ (by omega))).2, (pow_wrap (by omega : (b % 64).toNat < 64)).1, Int.toNat_natCast, Nat.testBit_two_pow, e]
    congr 1
    rw [decide_eq_decide]
    omega
  · rw [if_neg e, decide_eq_false (by intro h; subst h; exact e rfl), Bool.or_false]
theorem acc_all (K : Int → Bool) : ∀ j : Nat, j ≤ 256 → Wf (accS K j) ∧ ∀ c : Int, 0 ≤ c → c < 256 → hasI (accS K j) c = (decide (c < j) && K c)
  | 0, _ => ⟨wf0, fun c h0 h1 => by rw [show accS K 0 = fun _ => 0 from rfl, hasI_0 h0 h1, decide_eq_false (by omega), Bool.false_and]⟩
  | j + 1, h => by
    obtain ⟨i1, i2⟩ := acc_all K j (by omega)
    cases hK : K (j : Int)
    · rw [accS_no hK]
      refine ⟨i1, fun c h0 h1 => ?_⟩
      rw [i2 c h0 h1]
      by_cases e : c = (j : Int)
      · subst e; rw [hK, Bool.and_false, Bool.and_false]
      · have : decide (c < (j : Int)) = decide (c < ((j + 1 : Nat) : Int)) := by rw [decide_eq_decide]; omega
        rw [this]
    · rw [accS_yes hK]
      refine ⟨wf_add i1 (by omega) (by omega), fun c h0 h1 => ?_⟩
      rw [hasI_add i1 (by omega) (by omega) h0 h1, i2 c h0 h1]
      by_cases e : c = (j : Int)
      · subst e; rw [hK]; simp; omega
      · have : decide (c < (j : Int)) = decide (c < ((j + 1 : Nat) : Int)) := by rw [decide_eq_decide]; omega
        rw [this, decide_eq_false e, Bool.or_false]
theorem wf_acc (K : Int → Bool) : Wf (accAll K) := (acc_all K 256 (by omega)).1
theorem hasI_acc (K : Int → Bool) {c : Int} (h0 : 0 ≤ c) (h1 : c < 256) : hasI (accAll K) c = K c := by
  rw [accAll, (acc_all K 256 (by omega)).2 c h0 h1, decide_eq_true (by omega), Bool.true_and]
theorem eq_of (x y : Int) : eqS (byK (ofK x y)) (accAll (ofK x y)) = true :=
  ext_eqS (wf_byK _) (wf_acc _) fun b h0 h1 => by rw [hasI_byK _ h0 h1, hasI_acc _ h0 h1]
/-- A run's first and last number, out of the flat list. -/
def lo (l : List Int) (i : Nat) : Int := l.getD (i * 2) 0
def hi (l : List Int) (i : Nat) : Int := l.getD (i * 2 + 1) 0
/-- How many numbers the first i runs hold. -/
def sumN (l : List Int) : Nat → Int
  | 0 => 0
  | i + 1 => sumN l i + hi l i - lo l i + 1
theorem getD_new {l : List Int} {x y : Int} {k : Nat} : (l ++ [x, y]).getD k 0 = if k < l.length then l.getD k 0 else if k = l.length then x else if k = l.length + 1 then y else 0 := by
  rw [List.getD_eq_getElem?_getD, List.getD_eq_getElem?_getD]
  by_cases h : k < l.length
  · rw [if_pos h, List.getElem?_append_left h]
  · rw [if_neg h, List.getElem?_append_right (by omega)]
    by_cases e : k = l.length
    · rw [if_pos e, e]; simp
    · rw [if_neg e]
      by_cases e2 : k = l.length + 1
      · rw [if_pos e2, e2]; simp
      · rw [if_neg e2, List.getElem?_eq_none (by simp; omega)]; rfl
theorem getD_on {l : List Int} {x : Int} {k : Nat} (hl : 0 < l.length) : (l.dropLast ++ [x]).getD k 0 = if k + 1 < l.length then l.getD k 0 else if k + 1 = l.length then x else 0 := by
  rw [List.getD_eq_getElem?_getD, List.getD_eq_getElem?_getD]
  by_cases h : k + 1 < l.length
  · rw [if_pos h, List.getElem?_append_left (by simp; omega), List.getElem?_dropLast, if_pos (by omega)]
  · rw [if_neg h, List.getElem?_append_right (by simp; omega)]
    by_cases e : k + 1 = l.length
    · rw [if_pos e]; simp; rw [show k - (l.length - 1) = 0 from by omega]; rfl
    · rw [if_neg e, List.getElem?_eq_none (by simp; omega)]; rfl
theorem sumN_congr {l l' : List Int} : ∀ n : Nat, (∀ i, i < n → lo l i = lo l' i ∧ hi l i = hi l' i) → sumN l n = sumN l' n
  | 0, _ => rfl
  | n + 1, h => by
    have ih := sumN_congr n fun i hi => h i (by omega)
    have e := h n (by omega)
    show sumN l n + hi l n - lo l n + 1 = sumN l' n + hi l' n - lo l' n + 1
    rw [ih, e.1, e.2]
/-- What holds of the runs of the numbers below j. -/
structure Rn (K : Int → Bool) (j : Nat) : Prop where
  len : (flatR K j).length = cntR K j * 2
  ok : ∀ i, i < cntR K j → 0 ≤ lo (flatR K j) i ∧ lo (flatR K j) i ≤ hi (flatR K j) i ∧ hi (flatR K j) i < j
  far : ∀ i, i + 1 < cntR K j → hi (flatR K j) i + 1 < lo (flatR K j) (i + 1)
  has : ∀ b : Int, 0 ≤ b → b < j → (K b = true ↔ ∃ i, i < cntR K j ∧ lo (flatR K j) i ≤ b ∧ b ≤ hi (flatR K j) i)
  last : 0 < cntR K j → K ((j : Int) - 1) = true → hi (flatR K j) (cntR K j - 1) = (j : Int) - 1
  gap : 0 < cntR K j → K ((j : Int) - 1) = false → hi (flatR K j) (cntR K j - 1) < (j : Int) - 1
  sum : sumN (flatR K j) (cntR K j) = (listI K j).length
theorem rn_all {K : Int → Bool} (hK : K (-1) = false) : ∀ j : Nat, Rn K j
  | 0 => ⟨rfl, fun i h => by simp [cntR] at h, fun i h => by simp [cntR] at h, fun b h0 h1 => by omega, fun h => by simp [cntR] at h, fun h => by simp [cntR] at h, rfl⟩
  | j + 1 => by
    have R := rn_all hK j
    have ej : (((j + 1 : Nat) : Int) - 1) = (j : Int) := by omega
    cases h : K (j : Int)
    · obtain ⟨e1, e2⟩ := flatR_no h
      have hhi : ∀ i, i < cntR K j → hi (flatR K j) i < (j : Int) := fun i hi => (R.ok i hi).2.2
      refine ⟨by rw [e1, e2]; exact R.len, ?_, by rw [e1, e2]; exact R.far, ?_, ?_, ?_, by rw [e1, e2, listI_no h]; exact R.sum⟩
      · rw [e1, e2]; intro i hi; have := R.ok i hi; omega
      · rw [e1, e2]; intro b h0 h1
        by_cases e : b = (j : Int)
        · subst e
          rw [h]
          constructor
          · intro x; cases x
          · rintro ⟨i, hi, _, h3⟩; have := hhi i hi; omega
        · exact R.has b h0 (by omega)
      · rw [ej, h]; intro _ x; cases x
      · rw [ej, e1, e2]; intro hn _; exact hhi _ (by omega)
    · cases h' : K ((j : Int) - 1)
      · obtain ⟨e1, e2⟩ := flatR_new h h'
        have old : ∀ i, i < cntR K j → lo (flatR K j ++ [(j : Int), (j : Int)]) i = lo (flatR K j) i ∧ hi (flatR K j ++ [(j : Int), (j : Int)]) i = hi (flatR K j) i := fun i hin => by
          have hl := R.len
          unfold lo hi
          rw [getD_new, getD_new, if_pos (by omega), if_pos (by omega)]
          exact ⟨rfl, rfl⟩
        have new : lo (flatR K j ++ [(j : Int), (j : Int)]) (cntR K j) = j ∧ hi (flatR K j ++ [(j : Int), (j : Int)]) (cntR K j) = j := by
          have hl := R.len
          unfold lo hi
          rw [getD_new, getD_new, if_neg (by omega), if_pos (by omega), if_neg (by omega), if_neg (by omega), if_pos (by omega)]
          exact ⟨rfl, rfl⟩
        refine ⟨by rw [e1, e2]; have := R.len; simp; omega, ?_, ?_, ?_, ?_, ?_, ?_⟩
        · rw [e1, e2]; intro i hi
          by_cases e : i = cntR K j
          · subst e; rw [new.1, new.2]; omega
          · rw [(old i (by omega)).1, (old i (by omega)).2]; have := R.ok i (by omega); omega
        · rw [e1, e2]; intro i hi
          by_cases e : i + 1 = cntR K j
          · rw [e, new.1, (old i (by omega)).2]
            have g := R.gap (by omega) h'
            rw [show cntR K j - 1 = i from by omega] at g
            omega
          · rw [(old i (by omega)).2, (old (i + 1) (by omega)).1]; exact R.far i (by omega)
        · rw [e1, e2]; intro b h0 h1
          by_cases e : b = (j : Int)
          · subst e
            rw [h]
            exact ⟨fun _ => ⟨cntR K j, by omega, by rw [new.1]; omega, by rw [new.2]; omega⟩, fun _ => rfl⟩
          · rw [R.has b h0 (by omega)]
            constructor
            · rintro ⟨i, hi, h2, h3⟩; exact ⟨i, by omega, by rw [(old i hi).1]; exact h2, by rw [(old i hi).2]; exact h3⟩
            · rintro ⟨i, hi, h2, h3⟩
              by_cases e' : i = cntR K j
              · subst e'; rw [new.1] at h2; rw [new.2] at h3; omega
              · rw [(old i (by omega)).1] at h2; rw [(old i (by omega)).2] at h3; exact ⟨i, by omega, h2, h3⟩
        · rw [ej, e1, e2]; intro _ _; rw [Nat.add_sub_cancel, new.2]
        · rw [ej, h]; intro _ x; cases x
        · rw [e1, e2, listI_yes h]
          show sumN _ (cntR K j) + hi _ (cntR K j) - lo _ (cntR K j) + 1 = _
          rw [new.1, new.2, sumN_congr (cntR K j) old, R.sum]; simp
      · obtain ⟨e1, e2⟩ := flatR_on h h'
        have hpos := cntR_pos hK h'
        have hl := R.len
        have old : ∀ i, i < cntR K j → lo ((flatR K j).dropLast ++ [(j : Int)]) i = lo (flatR K j) i := fun i hi => by
          unfold lo
          rw [getD_on (by omega), if_pos (by omega)]
        have old2 : ∀ i, i + 1 < cntR K j → hi ((flatR K j).dropLast ++ [(j : Int)]) i = hi (flatR K j) i := fun i h => by
          unfold hi
          rw [getD_on (by omega), if_pos (by omega)]
        have new : hi ((flatR K j).dropLast ++ [(j : Int)]) (cntR K j - 1) = j := by
          unfold hi
          rw [getD_on (by omega), if_neg (by omega), if_pos (by omega)]
        have was := R.last hpos h'
        refine ⟨by rw [e1, e2]; simp; omega, ?_, ?_, ?_, ?_, ?_, ?_⟩
        · rw [e1, e2]; intro i hi
          rw [old i hi]
          have o := R.ok i hi
          by_cases e : i = cntR K j - 1
          · subst e; rw [new]; omega
          · rw [old2 i (by omega)]; omega
        · rw [e1, e2]; intro i hi
          rw [old2 i hi, old (i + 1) hi]; exact R.far i hi
        · rw [e1, e2]; intro b h0 h1
          by_cases e : b = (j : Int)
          · subst e
            rw [h]
            refine ⟨fun _ => ⟨cntR K j - 1, by omega, ?_, by rw [new]; omega⟩, fun _ => rfl⟩
            rw [old _ (by omega)]; have := R.ok (cntR K j - 1) (by omega); omega
          · rw [R.has b h0 (by omega)]
            constructor
            · rintro ⟨i, hi, h2, h3⟩
              refine ⟨i, hi, by rw [old i hi]; exact h2, ?_⟩
              by_cases e' : i = cntR K j - 1
              · subst e'; rw [new]; omega
              · rw [old2 i (by omega)]; exact h3
            · rintro ⟨i, hi, h2, h3⟩
              rw [old i hi] at h2
              refine ⟨i, hi, h2, ?_⟩
              by_cases e' : i = cntR K j - 1
              · subst e'; rw [was]; omega
              · rw [old2 i (by omega)] at h3; exact h3
        · rw [ej, e1, e2]; intro _ _; exact new
        · rw [ej, h]; intro _ x; cases x
        · rw [e1, e2, listI_yes h]
          obtain ⟨m, hm⟩ : ∃ m, cntR K j = m + 1 := ⟨cntR K j - 1, by omega⟩
          have s := R.sum
          rw [hm] at s new was ⊢
          rw [Nat.add_sub_cancel] at new was
          have s' : sumN (flatR K j) m + hi (flatR K j) m - lo (flatR K j) m + 1 = (listI K j).length := s
          show sumN _ m + hi _ m - lo _ m + 1 = _
          rw [new, old m (by omega), sumN_congr (l' := flatR K j) m (fun i hi => ⟨old i (by omega), old2 i (by omega)⟩)]
          simp; omega
theorem hasI_m1 (f : Nat → Int) : hasI f (-1) = false := hasI_out (by omega)
theorem rn_set (f : Nat → Int) : Rn (hasI f) 256 := rn_all (hasI_m1 f) 256
theorem runsN_le (f : Nat → Int) : runsN f ≤ 256 := cntR_le _ _
end Go.Proofs.Ytbahadgcmaabcaa
