/- A rule that is being made: what lies in memory, step by step. -/
import Derived.Test.YtnfchlkdppblfaaDoorHb
namespace Go.Proofs.YtnfchlkdppblfaaDoor
open Go.RowKit Go
theorem lt_of_heap {w : World} {b : Nat} {o : Obj} (h : w.heap[b]? = some o) : b < w.heap.size := (Array.getElem?_eq_some_iff.1 h).1
/-- Numbers as cells. -/
def numsV (f : Nat → Int) (n : Nat) : List Value := (List.range n).map fun i => .int .i64 (f i)
theorem numsV_len (f : Nat → Int) (n : Nat) : (numsV f n).length = n := by simp [numsV]
theorem numsV_succ (f : Nat → Int) (n : Nat) : numsV f (n + 1) = numsV f n ++ [.int .i64 (f n)] := by simp [numsV, List.range_succ]
/-- What a pattern of a rule is while the rule is made. -/
def PtI (w' : World) (t : Tr) : Prop := t = zT ∨ (fitT t = true ∧ Lives w' w'.heap.size t)
theorem PtI.keep {w w' : World} {t : Tr} (h : PtI w t) (hK : KeepF w w') (hs : w.heap.size ≤ w'.heap.size) : PtI w' t := by
  rcases h with h | ⟨h1, h2⟩
  · exact Or.inl h
  · exact Or.inr ⟨h1, (h2.keep hK h1).mono hs⟩
theorem PtI.lives {w : World} {t : Tr} (h : PtI w t) : Lives w w.heap.size t := by
  rcases h with rfl | ⟨_, h⟩
  · exact zT_lives _ _
  · exact h
structure RuI (w : World) (x p : Nat) (a : Option Addr) (n cap : Nat) (F : Nat → Int) (r : Rl) (A : Nat) (w' : World) : Prop where
  box : w'.heap[x]? = some (.cells (row22 r) 46 (0, 0))
  out : w'.heap[w.heap.size]? = some (.cells (row22 rZ) 46 (0, 0))
  mkr : Mk w' p a n cap F A
  grown : w.grownBy w' (some p)
  own : w'.ownsRow (x + 1) 3 1 (.slice r.ca r.cn r.cc) r.cn (numsV r.cs r.cn)
  px : PtI w' r.rx
  pt : PtI w' r.tr
theorem RuI.next {w : World} {x p : Nat} {a : Option Addr} {n cap : Nat} {F : Nat → Int} {r : Rl} {A A' : Nat} {w1 w2 : World} (h : RuI w x p a n cap F r A w1) (hpx : p < w.heap.size) (hx : w.heap.size < x) (hM : Mk w2 p a n cap F A') (hG : w1.grownBy w2 (some p)) : RuI w x p a n cap F r A' w2 := by
  have hK := keepF_mk h.mkr hG
  refine ⟨(hG.block x (lt_of_heap h.box) (by intro e; have := Option.some.inj e; omega)).trans h.box, (hG.block _ (lt_of_heap h.out) (by intro e; have := Option.some.inj e; omega)).trans h.out, hM, grownBy_trans h.grown hG, h.own.kept hG ?_, h.px.keep hK hG.size, h.pt.keep hK hG.size⟩
  cases hv : (Value.slice r.ca r.cn r.cc).ownBlock with
  | none => exact Or.inl rfl
  | some k => exact Or.inr (by intro e; have := (h.own.lt k hv).1; have := Option.some.inj e; omega)
theorem setRow_grown {w w1 : World} {p x : Nat} {cs : Array Value} (h : w.grownBy w1 (some p)) (hx : w.heap.size ≤ x) : w.grownBy (w1.setRow x cs) (some p) :=
  ⟨h.os, h.tape, h.output, by rw [size_setRow]; exact h.size, fun k hk hne => (setRow_other w1 x k cs (by omega)).trans (h.block k hk hne)⟩
theorem setRow_grown_x (w1 : World) (x : Nat) (cs : Array Value) : w1.grownBy (w1.setRow x cs) (some x) :=
  ⟨rfl, rfl, rfl, by rw [size_setRow]; exact Nat.le_refl _, fun k _ hne => setRow_other w1 x k cs (fun e => hne (by rw [e]))⟩
theorem mk_setRow {w1 : World} {p x : Nat} {a : Option Addr} {n cap : Nat} {F : Nat → Int} {A : Nat} {cs : Array Value} (h : Mk w1 p a n cap F A) (hpx : p < x) : Mk (w1.setRow x cs) p a n cap F A :=
  ⟨(setRow_other w1 x p cs (by omega)).trans h.box, fun hn => by
    obtain ⟨g, off, ha, hg, hc⟩ := h.row hn
    exact ⟨g, off, ha, hg, fun i hi => (cell_setRow_other _ _ _ _ (by show g ≠ x; omega)).trans (hc i hi)⟩⟩
/-- A pattern of the rule, old or new. -/
def PtN (w1 : World) (t t' : Tr) : Prop := t' = t ∨ (t.k = 0 ∧ PtI w1 t')
theorem RuI.row {w : World} {x p : Nat} {a : Option Addr} {n cap : Nat} {F : Nat → Int} {r r' : Rl} {A : Nat} {w1 : World} {cs : Array Value} (h : RuI w x p a n cap F r A w1) (hpx : p < w.heap.size) (hx : w.heap.size < x) (hc : cs = row22 r')
    (h0 : w1.ownsRow (x + 1) 3 1 (.slice r'.ca r'.cn r'.cc) r'.cn (numsV r'.cs r'.cn)) (h1 : PtN w1 r.rx r'.rx) (h2 : PtN w1 r.tr r'.tr) : RuI w x p a n cap F r' A (w1.setRow x cs) := by
  have hK : KeepF w1 (w1.setRow x cs) := keepF_row h.box hc (h1.elim Or.inr fun q => Or.inl q.1) (h2.elim Or.inr fun q => Or.inl q.1)
  refine ⟨by rw [← hc]; exact setRow_heap w1 x _ cs _ _ h.box, (setRow_other _ _ _ _ (by omega)).trans h.out, mk_setRow h.mkr (by omega), setRow_grown h.grown (by omega), h0.kept (setRow_grown_x _ _ _) ?_, ?_, ?_⟩
  · cases hv : (Value.slice r'.ca r'.cn r'.cc).ownBlock with
    | none => exact Or.inl rfl
    | some k => exact Or.inr (by intro e; have := (h0.lt k hv).1; have := Option.some.inj e; omega)
  · rcases h1 with e | ⟨_, q⟩
    · rw [e]; exact h.px.keep hK (by rw [size_setRow]; exact Nat.le_refl _)
    · exact q.keep hK (by rw [size_setRow]; exact Nat.le_refl _)
  · rcases h2 with e | ⟨_, q⟩
    · rw [e]; exact h.pt.keep hK (by rw [size_setRow]; exact Nat.le_refl _)
    · exact q.keep hK (by rw [size_setRow]; exact Nat.le_refl _)
/-- One cell of the rule is stored. -/
theorem RuI.cell {w : World} {x p : Nat} {a : Option Addr} {n cap : Nat} {F : Nat → Int} {r : Rl} {A : Nat} {w1 : World} (h : RuI w x p a n cap F r A w1) (hpx : p < w.heap.size) (hx : w.heap.size < x) (c : Nat) (v : Value) (r' : Rl) (hc : (row22 r).setIfInBounds c v = row22 r')
    (e0 : r'.ca = r.ca ∧ r'.cn = r.cn ∧ r'.cc = r.cc ∧ r'.cs = r.cs) (e1 : r'.rx = r.rx) (e2 : r'.tr = r.tr) : RuI w x p a n cap F r' A (w1.setCell ⟨x, c, none⟩ v) := by
  rw [setCell_eq_setRow w1 x c (row22 r) _ _ v h.box]
  obtain ⟨q0, q1, q2, q3⟩ := e0
  exact h.row hpx hx hc (by rw [q0, q1, q2, q3]; exact h.own) (Or.inl e1) (Or.inl e2)
end Go.Proofs.YtnfchlkdppblfaaDoor
