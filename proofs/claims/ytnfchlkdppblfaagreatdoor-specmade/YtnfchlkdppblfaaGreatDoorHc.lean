/- Laws for a rule that is made in a box: what lies in memory stays, cell by cell. -/
import Derived.Test.YtnfchlkdppblfaaGreatDoorHa
import Derived.Test.YtnfchlkdppblfaaGreatDoorUs
import Derived.Test.YtnfchlkdppblfaaGreatDoorCc
import Derived.Laws.CopyRow
import Derived.Laws.Tables
namespace Go.Proofs.YtnfchlkdppblfaaGreatDoor
open Go.RowKit Go
/-- Patterns that stand somewhere stand there still. -/
def KeepF (w w' : World) : Prop := ∀ g o u, At8 w g o u → fitsB u = true → At8 w' g o u
theorem KeepF.refl (w : World) : KeepF w w := fun _ _ _ h _ => h
theorem KeepF.trans {w w1 w2 : World} (h : KeepF w w1) (h' : KeepF w1 w2) : KeepF w w2 := fun g o u q hf => h' g o u (h g o u q hf) hf
theorem Lives.keep {w w' : World} (hK : KeepF w w') {B : Nat} : ∀ {t : Tr}, fitT t = true → Lives w B t → Lives w' B t
  | .node k s lo hi a m cap kid, hf, ⟨hs, h1, h2, hc, hk⟩ => ⟨hs, h1, h2, fun hp => by
      obtain ⟨g, off, ha, hg, hc⟩ := hc hp
      exact ⟨g, off, ha, hg, fun i hi' => hK _ _ _ (hc i hi') (fitT_fits (fitT_kid hf (i := i) hi'))⟩, fun i hi' => Lives.keep hK (t := kid i) (fitT_kid hf (i := i) hi') (hk i hi')⟩
  | .nul, _, h => False.elim h
theorem lt_of_cell {w : World} {g o : Nat} {v : Value} (h : w.cell? ⟨g, o, none⟩ = some v) : g < w.heap.size := by
  rcases Nat.lt_or_ge g w.heap.size with q | q
  · exact q
  · simp [World.cell?, Array.getElem?_eq_none q] at h
theorem keepF_below {w w' : World} (h : Below w.heap.size w w') : KeepF w w' := fun _ _ _ q _ => q.below (lt_of_cell q.1) h
theorem keepF_but {w w' : World} {x : Nat} (hx : ∀ o u, At8 w x o u → fitsB u = true → False) (hG : ∀ g, g < w.heap.size → g ≠ x → w'.heap[g]? = w.heap[g]?) : KeepF w w' := fun g o u q hf => by
  have hne : g ≠ x := fun e => hx o u (e ▸ q) hf
  have key : ∀ c v, w.cell? ⟨g, c, none⟩ = some v → w'.cell? ⟨g, c, none⟩ = some v := fun c v h => (World.cell?_of_block (a := ⟨g, c, none⟩) (hG g (lt_of_cell h) hne)).trans h
  obtain ⟨c0, c1, c2, c3, c4, c5, c6, c7⟩ := q
  exact ⟨key _ _ c0, key _ _ c1, key _ _ c2, key _ _ c3, key _ _ c4, key _ _ c5, key _ _ c6, key _ _ c7⟩
theorem keepF_mk {w w' : World} {p : Nat} {a : Option Addr} {n cap : Nat} {F : Nat → Int} {A : Nat} (hM : Mk w p a n cap F A) (hG : w.grownBy w' (some p)) : KeepF w w' :=
  keepF_but (x := p) (fun _ _ h _ => at8_ne hM h rfl) fun g hg hne => hG.block g hg (fun e => hne (Option.some.inj e))
set_option maxRecDepth 100000 in
/-- Where a pattern can stand within a rule's box. -/
theorem at8_in22 {w : World} {x o : Nat} {r : Rl} {u : Tr} (h : w.heap[x]? = some (.cells (row22 r) 43 (0, 0))) (q : At8 w x o u) : (o = 3 ∧ u.k = r.rx.k) ∨ (o = 11 ∧ u.k = r.tr.k) := by
  have key : ∀ c v, w.cell? ⟨x, c, none⟩ = some v → (row22 r)[c]? = some v := fun c v hc => by rw [cell_of_row w x c _ _ _ h] at hc; exact hc
  obtain ⟨q0, q1, q2, q3, q4, q5, q6, q7⟩ := q
  have k0 := key _ _ q0
  have k1 := key _ _ q1
  have ho : o < 22 := by
    rcases Nat.lt_or_ge o 22 with z | z
    · exact z
    · rw [Array.getElem?_eq_none (by simpa using z)] at k0; cases k0
  match o, ho with
  | 0, _ => simp at k0
  | 1, _ => simp at k0
  | 2, _ => simp at k0
  | 3, _ => simp at k0; exact Or.inl ⟨rfl, k0.symm⟩
  | 4, _ => simp at k0
  | 5, _ => simp at k0
  | 6, _ => simp at k0
  | 7, _ => simp at k0
  | 8, _ => simp at k1
  | 9, _ => simp at k1
  | 10, _ => simp at k0
  | 11, _ => simp at k0; exact Or.inr ⟨rfl, k0.symm⟩
  | 12, _ => simp at k0
  | 13, _ => simp at k0
  | 14, _ => simp at k0
  | 15, _ => simp at k0
  | 16, _ => simp at k1
  | 17, _ => simp at k1
  | 18, _ => simp at k0
  | 19, _ => simp at k0
  | 20, _ => simp at k1
  | 21, _ => simp at k1
/-- A rule of nothing. -/
def rZ : Rl := ⟨none, 0, 0, fun _ => 0, false, false, zT, zT, false, 0, 0⟩
theorem fits_k0 {u : Tr} (h : fitsB u = true) : u.k ≠ 0 := by
  have := fits_cases h
  omega
/-- A box is written, outside what it holds of patterns. -/
theorem keepF_row {w : World} {x : Nat} {r r' : Rl} {cs : Array Value} (h : w.heap[x]? = some (.cells (row22 r) 43 (0, 0))) (hc : cs = row22 r')
    (h1 : r.rx.k = 0 ∨ r'.rx = r.rx) (h2 : r.tr.k = 0 ∨ r'.tr = r.tr) : KeepF w (w.setRow x cs) := fun g o u q hf => by
  by_cases hx : g = x
  · subst hx
    have hn := setRow_heap w g _ cs _ _ h
    rw [hc] at hn ⊢
    rcases at8_in22 h q with ⟨rfl, hk⟩ | ⟨rfl, hk⟩
    · rcases h1 with h1 | h1
      · exact absurd (hk.trans h1) (fits_k0 hf)
      · have key : ∀ c, 3 ≤ c → c < 11 → ∀ v, w.cell? ⟨g, c, none⟩ = some v → (w.setRow g (row22 r')).cell? ⟨g, c, none⟩ = some v := fun c c1 c2 v hv => by
          rw [cell_of_row w g c _ _ _ h] at hv
          rw [cell_of_row _ g c _ _ _ hn, ← hv]
          match c, c1, c2 with
          | 3, _, _ => simp [h1]
          | 4, _, _ => simp [h1]
          | 5, _, _ => simp [h1]
          | 6, _, _ => simp [h1]
          | 7, _, _ => simp [h1]
          | 8, _, _ => simp [h1]
          | 9, _, _ => simp [h1]
          | 10, _, _ => simp [h1]
        obtain ⟨q0, q1, q2, q3, q4, q5, q6, q7⟩ := q
        exact ⟨key _ (by omega) (by omega) _ q0, key _ (by omega) (by omega) _ q1, key _ (by omega) (by omega) _ q2, key _ (by omega) (by omega) _ q3, key _ (by omega) (by omega) _ q4, key _ (by omega) (by omega) _ q5, key _ (by omega) (by omega) _ q6, key _ (by omega) (by omega) _ q7⟩
    · rcases h2 with h2 | h2
      · exact absurd (hk.trans h2) (fits_k0 hf)
      · have key : ∀ c, 11 ≤ c → c < 19 → ∀ v, w.cell? ⟨g, c, none⟩ = some v → (w.setRow g (row22 r')).cell? ⟨g, c, none⟩ = some v := fun c c1 c2 v hv => by
          rw [cell_of_row w g c _ _ _ h] at hv
          rw [cell_of_row _ g c _ _ _ hn, ← hv]
          match c, c1, c2 with
          | 11, _, _ => simp [h2]
          | 12, _, _ => simp [h2]
          | 13, _, _ => simp [h2]
          | 14, _, _ => simp [h2]
          | 15, _, _ => simp [h2]
          | 16, _, _ => simp [h2]
          | 17, _, _ => simp [h2]
          | 18, _, _ => simp [h2]
          | k + 19, _, q => omega
        obtain ⟨q0, q1, q2, q3, q4, q5, q6, q7⟩ := q
        exact ⟨key _ (by omega) (by omega) _ q0, key _ (by omega) (by omega) _ q1, key _ (by omega) (by omega) _ q2, key _ (by omega) (by omega) _ q3, key _ (by omega) (by omega) _ q4, key _ (by omega) (by omega) _ q5, key _ (by omega) (by omega) _ q6, key _ (by omega) (by omega) _ q7⟩
  · have key : ∀ c v, w.cell? ⟨g, c, none⟩ = some v → (w.setRow x cs).cell? ⟨g, c, none⟩ = some v := fun c v hv => by rw [cell_setRow_other _ _ _ _ hx]; exact hv
    obtain ⟨q0, q1, q2, q3, q4, q5, q6, q7⟩ := q
    exact ⟨key _ _ q0, key _ _ q1, key _ _ q2, key _ _ q3, key _ _ q4, key _ _ q5, key _ _ q6, key _ _ q7⟩
/-- A struct that is stored into a part of a block, an operation of a walk. -/
theorem wpList_store_at {ops : Array Oper} {rest : List Oper} {o : Oper} {a : Act} {w : World} {Q : Exit → Act → World → Prop} (ty : TypeId) (p v : Operand) (ho : o.op = .store ty p v) (hgd : o.guard = none)
    (x c : Nat) (hp : a.eval p = .pointer (some ⟨x, c, none⟩)) (vs : Array Value) (hv : a.eval v = .agg vs) (cur : Array Value) (e : Nat) (hx : w.heap[x]? = some (.cells cur e (0, 0))) (hi : (Tryz.prog.info? ty).map (·.size) = some vs.size) (hl : c + vs.size ≤ cur.size) (h1 : ∀ u ∈ vs.toList, u.oneCell' = true)
    (h : wpList Tryz.prog ops Q rest (a.put o.dst undef) (w.setRow x (cur.toList.take c ++ vs.toList ++ cur.toList.drop (c + vs.size)).toArray)) : wpList Tryz.prog ops Q (o :: rest) a w :=
  wpList_plain hgd fun K hK => by
    have hst := run_storeCells_at (P := Tryz.prog) x c e vs.toList 0 cur w hx (by simpa using hl) h1
    have hsv : (storeVar ty ⟨x, c, none⟩ (.agg vs)).run Tryz.prog w = .ok () (w.setRow x (cur.toList.take c ++ vs.toList ++ cur.toList.drop (c + vs.size)).toArray) := by
      cases hq : Tryz.prog.info? ty with
      | none => simp [hq] at hi
      | some i =>
        have hs : vs.size = i.size := by simp [hq] at hi; omega
        simp only [Nat.add_zero, Array.length_toList] at hst
        simp [storeVar, sizeOf, typeInfo, hq, Value.cells, hs, hst]
    unfold Oper.wp execOp
    simp only [ho, hp, hv, Instr.storeAt, Instr.sureAddr, Sem.run_bind, Sem.run_pure, Result.andThen_ok, hsv]
    exact hK _ _ h
end Go.Proofs.YtnfchlkdppblfaaGreatDoor
/- A rule that is being made: what lies in memory, step by step. -/
namespace Go.Proofs.YtnfchlkdppblfaaGreatDoor
open Go.RowKit Go
theorem lt_of_heap {w : World} {b : Nat} {o : Obj} (h : w.heap[b]? = some o) : b < w.heap.size := (Array.getElem?_eq_some_iff.1 h).1
/-- Numbers as cells. -/
def numsV (f : Nat → Int) (n : Nat) : List Value := (List.range n).map fun i => .int .i64 (f i)
theorem numsV_len (f : Nat → Int) (n : Nat) : (numsV f n).length = n := by simp [numsV]
theorem numsV_succ (f : Nat → Int) (n : Nat) : numsV f (n + 1) = numsV f n ++ [.int .i64 (f n)] := by simp [numsV, List.range_succ]
/-- What a pattern of a rule is while the rule is made. -/
def PtI (w' : World) (t : Tr) : Prop := t = zT ∨ (fitT t = true ∧ Lives w' w'.heap.size t)
theorem PtI.keep {w w' : World} {t : Tr} (h : PtI w t) (hK : KeepF w w') (hs : w.heap.size ≤ w'.heap.size) : PtI w' t := by
  rcases h with h | ⟨h1, h2⟩
  · exact Or.inl h
  · exact Or.inr ⟨h1, (h2.keep hK h1).mono hs⟩
theorem PtI.lives {w : World} {t : Tr} (h : PtI w t) : Lives w w.heap.size t := by
  rcases h with rfl | ⟨_, h⟩
  · exact zT_lives _ _
  · exact h
structure RuI (w : World) (x p : Nat) (a : Option Addr) (n cap : Nat) (F : Nat → Int) (r : Rl) (A : Nat) (w' : World) : Prop where
  box : w'.heap[x]? = some (.cells (row22 r) 43 (0, 0))
  out : w'.heap[w.heap.size]? = some (.cells (row22 rZ) 43 (0, 0))
  mkr : Mk w' p a n cap F A
  grown : w.grownBy w' (some p)
  own : w'.ownsRow (x + 1) 3 1 (.slice r.ca r.cn r.cc) r.cn (numsV r.cs r.cn)
  px : PtI w' r.rx
  pt : PtI w' r.tr
theorem RuI.next {w : World} {x p : Nat} {a : Option Addr} {n cap : Nat} {F : Nat → Int} {r : Rl} {A A' : Nat} {w1 w2 : World} (h : RuI w x p a n cap F r A w1) (hpx : p < w.heap.size) (hx : w.heap.size < x) (hM : Mk w2 p a n cap F A') (hG : w1.grownBy w2 (some p)) : RuI w x p a n cap F r A' w2 := by
  have hK := keepF_mk h.mkr hG
  refine ⟨(hG.block x (lt_of_heap h.box) (by intro e; have := Option.some.inj e; omega)).trans h.box, (hG.block _ (lt_of_heap h.out) (by intro e; have := Option.some.inj e; omega)).trans h.out, hM, grownBy_trans h.grown hG, h.own.kept hG ?_, h.px.keep hK hG.size, h.pt.keep hK hG.size⟩
  cases hv : (Value.slice r.ca r.cn r.cc).ownBlock with
  | none => exact Or.inl rfl
  | some k => exact Or.inr (by intro e; have := (h.own.lt k hv).1; have := Option.some.inj e; omega)
theorem setRow_grown {w w1 : World} {p x : Nat} {cs : Array Value} (h : w.grownBy w1 (some p)) (hx : w.heap.size ≤ x) : w.grownBy (w1.setRow x cs) (some p) :=
  ⟨h.os, h.tape, h.output, by rw [size_setRow]; exact h.size, fun k hk hne => (setRow_other w1 x k cs (by omega)).trans (h.block k hk hne)⟩
theorem setRow_grown_x (w1 : World) (x : Nat) (cs : Array Value) : w1.grownBy (w1.setRow x cs) (some x) :=
  ⟨rfl, rfl, rfl, by rw [size_setRow]; exact Nat.le_refl _, fun k _ hne => setRow_other w1 x k cs (fun e => hne (by rw [e]))⟩
theorem mk_setRow {w1 : World} {p x : Nat} {a : Option Addr} {n cap : Nat} {F : Nat → Int} {A : Nat} {cs : Array Value} (h : Mk w1 p a n cap F A) (hpx : p < x) : Mk (w1.setRow x cs) p a n cap F A :=
  ⟨(setRow_other w1 x p cs (by omega)).trans h.box, fun hn => by
    obtain ⟨g, off, ha, hg, hc⟩ := h.row hn
    exact ⟨g, off, ha, hg, fun i hi => (cell_setRow_other _ _ _ _ (by show g ≠ x; omega)).trans (hc i hi)⟩⟩
/-- A pattern of the rule, old or new. -/
def PtN (w1 : World) (t t' : Tr) : Prop := t' = t ∨ (t.k = 0 ∧ PtI w1 t')
theorem RuI.row {w : World} {x p : Nat} {a : Option Addr} {n cap : Nat} {F : Nat → Int} {r r' : Rl} {A : Nat} {w1 : World} {cs : Array Value} (h : RuI w x p a n cap F r A w1) (hpx : p < w.heap.size) (hx : w.heap.size < x) (hc : cs = row22 r')
    (h0 : w1.ownsRow (x + 1) 3 1 (.slice r'.ca r'.cn r'.cc) r'.cn (numsV r'.cs r'.cn)) (h1 : PtN w1 r.rx r'.rx) (h2 : PtN w1 r.tr r'.tr) : RuI w x p a n cap F r' A (w1.setRow x cs) := by
  have hK : KeepF w1 (w1.setRow x cs) := keepF_row h.box hc (h1.elim Or.inr fun q => Or.inl q.1) (h2.elim Or.inr fun q => Or.inl q.1)
  refine ⟨by rw [← hc]; exact setRow_heap w1 x _ cs _ _ h.box, (setRow_other _ _ _ _ (by omega)).trans h.out, mk_setRow h.mkr (by omega), setRow_grown h.grown (by omega), h0.kept (setRow_grown_x _ _ _) ?_, ?_, ?_⟩
  · cases hv : (Value.slice r'.ca r'.cn r'.cc).ownBlock with
    | none => exact Or.inl rfl
    | some k => exact Or.inr (by intro e; have := (h0.lt k hv).1; have := Option.some.inj e; omega)
  · rcases h1 with e | ⟨_, q⟩
    · rw [e]; exact h.px.keep hK (by rw [size_setRow]; exact Nat.le_refl _)
    · exact q.keep hK (by rw [size_setRow]; exact Nat.le_refl _)
  · rcases h2 with e | ⟨_, q⟩
    · rw [e]; exact h.pt.keep hK (by rw [size_setRow]; exact Nat.le_refl _)
    · exact q.keep hK (by rw [size_setRow]; exact Nat.le_refl _)
/-- One cell of the rule is stored. -/
theorem RuI.cell {w : World} {x p : Nat} {a : Option Addr} {n cap : Nat} {F : Nat → Int} {r : Rl} {A : Nat} {w1 : World} (h : RuI w x p a n cap F r A w1) (hpx : p < w.heap.size) (hx : w.heap.size < x) (c : Nat) (v : Value) (r' : Rl) (hc : (row22 r).setIfInBounds c v = row22 r')
    (e0 : r'.ca = r.ca ∧ r'.cn = r.cn ∧ r'.cc = r.cc ∧ r'.cs = r.cs) (e1 : r'.rx = r.rx) (e2 : r'.tr = r.tr) : RuI w x p a n cap F r' A (w1.setCell ⟨x, c, none⟩ v) := by
  rw [setCell_eq_setRow w1 x c (row22 r) _ _ v h.box]
  obtain ⟨q0, q1, q2, q3⟩ := e0
  exact h.row hpx hx hc (by rw [q0, q1, q2, q3]; exact h.own) (Or.inl e1) (Or.inl e2)
end Go.Proofs.YtnfchlkdppblfaaGreatDoor
