/- Laws for a rule that is made in a box: what lies in memory stays, cell by cell. -/
import Derived.Test.YtnfchlkdppblfaaDoorHa
import Derived.Test.YtnfchlkdppblfaaDoorUs
import Derived.Test.YtnfchlkdppblfaaDoorCc
import Derived.Laws.CopyRow
import Derived.Laws.Tables
namespace Go.Proofs.YtnfchlkdppblfaaDoor
open Go.RowKit Go
/-- Patterns that stand somewhere stand there still. -/
def KeepF (w w' : World) : Prop := ∀ g o u, At8 w g o u → fitsB u = true → At8 w' g o u
theorem KeepF.refl (w : World) : KeepF w w := fun _ _ _ h _ => h
theorem KeepF.trans {w w1 w2 : World} (h : KeepF w w1) (h' : KeepF w1 w2) : KeepF w w2 := fun g o u q hf => h' g o u (h g o u q hf) hf
theorem Lives.keep {w w' : World} (hK : KeepF w w') {B : Nat} : ∀ {t : Tr}, fitT t = true → Lives w B t → Lives w' B t
  | .node k s lo hi a m cap kid, hf, ⟨hs, h1, h2, hc, hk⟩ => ⟨hs, h1, h2, fun hp => by
      obtain ⟨g, off, ha, hg, hc⟩ := hc hp
      exact ⟨g, off, ha, hg, fun i hi' => hK _ _ _ (hc i hi') (fitT_fits (fitT_kid hf (i := i) hi'))⟩, fun i hi' => Lives.keep hK (t := kid i) (fitT_kid hf (i := i) hi') (hk i hi')⟩
  | .nul, _, h => False.elim h
theorem lt_of_cell {w : World} {g o : Nat} {v : Value} (h : w.cell? ⟨g, o, none⟩ = some v) : g < w.heap.size := by
  rcases Nat.lt_or_ge g w.heap.size with q | q
  · exact q
  · simp [World.cell?, Array.getElem?_eq_none q] at h
theorem keepF_below {w w' : World} (h : Below w.heap.size w w') : KeepF w w' := fun g o u q _ => q.below (lt_of_cell q.1) h
theorem keepF_but {w w' : World} {x : Nat} (hx : ∀ o u, At8 w x o u → fitsB u = true → False) (hG : ∀ g, g < w.heap.size → g ≠ x → w'.heap[g]? = w.heap[g]?) : KeepF w w' := fun g o u q hf => by
  have hne : g ≠ x := fun e => hx o u (e ▸ q) hf
  have key : ∀ c v, w.cell? ⟨g, c, none⟩ = some v → w'.cell? ⟨g, c, none⟩ = some v := fun c v h => (World.cell?_of_block (a := ⟨g, c, none⟩) (hG g (lt_of_cell h) hne)).trans h
  obtain ⟨c0, c1, c2, c3, c4, c5, c6, c7⟩ := q
  exact ⟨key _ _ c0, key _ _ c1, key _ _ c2, key _ _ c3, key _ _ c4, key _ _ c5, key _ _ c6, key _ _ c7⟩
theorem keepF_mk {w w' : World} {p : Nat} {a : Option Addr} {n cap : Nat} {F : Nat → Int} {A : Nat} (hM : Mk w p a n cap F A) (hG : w.grownBy w' (some p)) : KeepF w w' :=
  keepF_but (x := p) (fun o u h _ => at8_ne hM h rfl) fun g hg hne => hG.block g hg (fun e => hne (Option.some.inj e))
set_option maxRecDepth 100000 in
/-- Where a pattern can stand within a rule's box. -/
theorem at8_in22 {w : World} {x o : Nat} {r : Rl} {u : Tr} (h : w.heap[x]? = some (.cells (row22 r) 46 (0, 0))) (q : At8 w x o u) : (o = 3 ∧ u.k = r.rx.k) ∨ (o = 11 ∧ u.k = r.tr.k) := by
  have key : ∀ c v, w.cell? ⟨x, c, none⟩ = some v → (row22 r)[c]? = some v := fun c v hc => by rw [cell_of_row w x c _ _ _ h] at hc; exact hc
  obtain ⟨q0, q1, q2, q3, q4, q5, q6, q7⟩ := q
  have k0 := key _ _ q0
  have k1 := key _ _ q1
  have ho : o < 22 := by
    rcases Nat.lt_or_ge o 22 with z | z
    · exact z
    · rw [Array.getElem?_eq_none (by simpa using z)] at k0; cases k0
  match o, ho with
  | 0, _ => simp at k0
  | 1, _ => simp at k0
  | 2, _ => simp at k0
  | 3, _ => simp at k0; exact Or.inl ⟨rfl, k0.symm⟩
  | 4, _ => simp at k0
  | 5, _ => simp at k0
  | 6, _ => simp at k0
  | 7, _ => simp at k0
  | 8, _ => simp at k1
  | 9, _ => simp at k1
  | 10, _ => simp at k0
  | 11, _ => simp at k0; exact Or.inr ⟨rfl, k0.symm⟩
  | 12, _ => simp at k0
  | 13, _ => simp at k0
  | 14, _ => simp at k0
  | 15, _ => simp at k0
  | 16, _ => simp at k1
  | 17, _ => simp at k1
  | 18, _ => simp at k0
  | 19, _ => simp at k0
  | 20, _ => simp at k1
  | 21, _ => simp at k1
/-- A rule of nothing. -/
def rZ : Rl := ⟨none, 0, 0, fun _ => 0, false, false, zT, zT, false, 0, 0⟩
theorem fits_k0 {u : Tr} (h : fitsB u = true) : u.k ≠ 0 := by
  have := fits_cases h
  omega
/-- A box is written, outside what it holds of patterns. -/
theorem keepF_row {w : World} {x : Nat} {r r' : Rl} {cs : Array Value} (h : w.heap[x]? = some (.cells (row22 r) 46 (0, 0))) (hc : cs = row22 r')
    (h1 : r.rx.k = 0 ∨ r'.rx = r.rx) (h2 : r.tr.k = 0 ∨ r'.tr = r.tr) : KeepF w (w.setRow x cs) := fun g o u q hf => by
  by_cases hx : g = x
  · subst hx
    have hn := setRow_heap w g _ cs _ _ h
    rw [hc] at hn ⊢
    rcases at8_in22 h q with ⟨rfl, hk⟩ | ⟨rfl, hk⟩
    · rcases h1 with h1 | h1
      · exact absurd (hk.trans h1) (fits_k0 hf)
      · have key : ∀ c, 3 ≤ c → c < 11 → ∀ v, w.cell? ⟨g, c, none⟩ = some v → (w.setRow g (row22 r')).cell? ⟨g, c, none⟩ = some v := fun c c1 c2 v hv => by
          rw [cell_of_row w g c _ _ _ h] at hv
          rw [cell_of_row _ g c _ _ _ hn, ← hv]
          match c, c1, c2 with
          | 3, _, _ => simp [h1]
          | 4, _, _ => simp [h1]
          | 5, _, _ => simp [h1]
          | 6, _, _ => simp [h1]
          | 7, _, _ => simp [h1]
          | 8, _, _ => simp [h1]
          | 9, _, _ => simp [h1]
          | 10, _, _ => simp [h1]
        obtain ⟨q0, q1, q2, q3, q4, q5, q6, q7⟩ := q
        exact ⟨key _ (by omega) (by omega) _ q0, key _ (by omega) (by omega) _ q1, key _ (by omega) (by omega) _ q2, key _ (by omega) (by omega) _ q3, key _ (by omega) (by omega) _ q4, key _ (by omega) (by omega) _ q5, key _ (by omega) (by omega) _ q6, key _ (by omega) (by omega) _ q7⟩
    · rcases h2 with h2 | h2
      · exact absurd (hk.trans h2) (fits_k0 hf)
      · have key : ∀ c, 11 ≤ c → c < 19 → ∀ v, w.cell? ⟨g, c, none⟩ = some v → (w.setRow g (row22 r')).cell? ⟨g, c, none⟩ = some v := fun c c1 c2 v hv => by
          rw [cell_of_row w g c _ _ _ h] at hv
          rw [cell_of_row _ g c _ _ _ hn, ← hv]
          match c, c1, c2 with
          | 11, _, _ => simp [h2]
          | 12, _, _ => simp [h2]
          | 13, _, _ => simp [h2]
          | 14, _, _ => simp [h2]
          | 15, _, _ => simp [h2]
          | 16, _, _ => simp [h2]
          | 17, _, _ => simp [h2]
          | 18, _, _ => simp [h2]
          | k + 19, _, q => omega
        obtain ⟨q0, q1, q2, q3, q4, q5, q6, q7⟩ := q
        exact ⟨key _ (by omega) (by omega) _ q0, key _ (by omega) (by omega) _ q1, key _ (by omega) (by omega) _ q2, key _ (by omega) (by omega) _ q3, key _ (by omega) (by omega) _ q4, key _ (by omega) (by omega) _ q5, key _ (by omega) (by omega) _ q6, key _ (by omega) (by omega) _ q7⟩
  · have key : ∀ c v, w.cell? ⟨g, c, none⟩ = some v → (w.setRow x cs).cell? ⟨g, c, none⟩ = some v := fun c v hv => by rw [cell_setRow_other _ _ _ _ hx]; exact hv
    obtain ⟨q0, q1, q2, q3, q4, q5, q6, q7⟩ := q
    exact ⟨key _ _ q0, key _ _ q1, key _ _ q2, key _ _ q3, key _ _ q4, key _ _ q5, key _ _ q6, key _ _ q7⟩
/-- A struct that is stored into a part of a block, an operation of a walk. -/
theorem wpList_store_at {ops : Array Oper} {rest : List Oper} {o : Oper} {a : Act} {w : World} {Q : Exit → Act → World → Prop} (ty : TypeId) (p v : Operand) (ho : o.op = .store ty p v) (hgd : o.guard = none)
    (x c : Nat) (hp : a.eval p = .pointer (some ⟨x, c, none⟩)) (vs : Array Value) (hv : a.eval v = .agg vs) (cur : Array Value) (e : Nat) (hx : w.heap[x]? = some (.cells cur e (0, 0))) (hi : (Tryd.prog.info? ty).map (·.size) = some vs.size) (hl : c + vs.size ≤ cur.size) (h1 : ∀ u ∈ vs.toList, u.oneCell' = true)
    (h : wpList Tryd.prog ops Q rest (a.put o.dst undef) (w.setRow x (cur.toList.take c ++ vs.toList ++ cur.toList.drop (c + vs.size)).toArray)) : wpList Tryd.prog ops Q (o :: rest) a w :=
  wpList_plain hgd fun K hK => by
    have hst := run_storeCells_at (P := Tryd.prog) x c e vs.toList 0 cur w hx (by simpa using hl) h1
    have hsv : (storeVar ty ⟨x, c, none⟩ (.agg vs)).run Tryd.prog w = .ok () (w.setRow x (cur.toList.take c ++ vs.toList ++ cur.toList.drop (c + vs.size)).toArray) := by
      cases hq : Tryd.prog.info? ty with
      | none => simp [hq] at hi
      | some i =>
        have hs : vs.size = i.size := by simp [hq] at hi; omega
        simp only [Nat.add_zero, Array.length_toList] at hst
        simp [storeVar, sizeOf, typeInfo, hq, Value.cells, hs, hst]
    unfold Oper.wp execOp
    simp only [ho, hp, hv, Instr.storeAt, Instr.sureAddr, Sem.run_bind, Sem.run_pure, Result.andThen_ok, hsv]
    exact hK _ _ h
end Go.Proofs.YtnfchlkdppblfaaDoor
