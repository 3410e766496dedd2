/- Rows of rules that the call itself makes: what lies in the block, and what an append makes of it. -/
import Derived.Test.YtnfchlkdppblfaaDoorHd
import Derived.Deep.AppendSrc
namespace Go.Proofs.YtnfchlkdppblfaaDoor
open Go.RowKit Go
/-- A block holds rules, one behind the other, and nothing else. -/
def RwC (cur : Array Value) (cap : Nat) (R : Nat → Rl) : Prop := cur.size = cap * 22 ∧ ∀ i c, i < cap → c < 22 → cur[i * 22 + c]? = (row22 (R i))[c]?
/-- One rule more. -/
def putR (R : Nat → Rl) (n : Nat) (r : Rl) : Nat → Rl := fun i => if i = n then r else R i
theorem putR_same (R : Nat → Rl) (n : Nat) (r : Rl) : putR R n r n = r := if_pos rfl
theorem putR_ne (R : Nat → Rl) {n i : Nat} (r : Rl) (h : i ≠ n) : putR R n r i = R i := if_neg h
theorem get3 {A B C : List Value} {n cap : Nat} (hA : A.length = n * 22) (hB : B.length = 22) (i c : Nat) (hc : c < 22) :
    (A ++ B ++ C)[i * 22 + c]? = if i < n then A[i * 22 + c]? else if i = n then B[c]? else C[(i - n - 1) * 22 + c]? := by
  split
  · rename_i h
    rw [List.append_assoc, List.getElem?_append_left (by omega)]
  · split
    · rename_i h
      subst h
      rw [List.append_assoc, List.getElem?_append_right (by omega), List.getElem?_append_left (by omega), hA]
      congr 1; omega
    · rw [List.getElem?_append_right (by simp; omega), List.length_append, hA, hB]
      congr 1; omega
theorem zero_get {z : Array Value} (hz : z.size = 22) (m i c : Nat) (hi : i < m) (hc : c < 22) : (Builtin.zeroCells z m).toList[i * 22 + c]? = z[c]? := by
  have h1 : i * 22 + c < m * 22 := by omega
  have h2 : (i * 22 + c) % 22 = c := by omega
  unfold Builtin.zeroCells
  rw [Array.getElem?_toList, Array.getElem?_map, hz]
  rw [Array.getElem?_range, if_pos h1]
  simp [h2, hz, hc]
/-- There is room. -/
theorem rw_room {cur : Array Value} {n cap : Nat} {R : Nat → Rl} (h : RwC cur cap R) (hn : n < cap) (r : Rl) : RwC (cur.toList.take (n * 22) ++ (row22 r).toList ++ cur.toList.drop (n * 22 + 22)).toArray cap (putR R n r) := by
  have hl : cur.toList.length = cap * 22 := by rw [Array.length_toList]; exact h.1
  have hA : (cur.toList.take (n * 22)).length = n * 22 := by rw [List.length_take, hl]; omega
  refine ⟨by simp only [List.size_toArray, List.length_append, List.length_drop, hA, hl]; show n * 22 + 22 + _ = _; omega, fun i c hi hc => ?_⟩
  rw [List.getElem?_toArray, get3 (n := n) (cap := cap) hA rfl i c hc]
  split
  · rename_i q
    rw [putR_ne _ _ (by omega), List.getElem?_take, if_pos (by omega), Array.getElem?_toList]
    exact h.2 i c hi hc
  · split
    · rename_i q; subst q; rw [putR_same, Array.getElem?_toList]
    · rw [putR_ne _ _ (by omega), List.getElem?_drop, Array.getElem?_toList, ← h.2 i c hi hc]
      congr 1; omega
/-- There is none. -/
theorem rw_grow {cur : Array Value} {n cap cap' : Nat} {R : Nat → Rl} (h : RwC cur cap R) (hn : n ≤ cap) (hz : ∀ i, n ≤ i → R i = rZ) (r : Rl) (hc' : n + 1 ≤ cap') :
    RwC ((cur.toList.take (n * 22)).toArray ++ (row22 r).toList.toArray ++ Builtin.zeroCells (row22 rZ) (cap' - (n + 1))) cap' (putR R n r) := by
  have hl : cur.toList.length = cap * 22 := by rw [Array.length_toList]; exact h.1
  have hA : (cur.toList.take (n * 22)).length = n * 22 := by rw [List.length_take, hl]; omega
  refine ⟨by simp only [Array.size_append, List.size_toArray, hA, size_zeroCells]; show n * 22 + 22 + _ * 22 = _; omega, fun i c hi hc => ?_⟩
  rw [← Array.getElem?_toList]
  simp only [Array.toList_append, List.toList_toArray]
  rw [get3 (n := n) (cap := cap) hA rfl i c hc]
  split
  · rename_i q
    rw [putR_ne _ _ (by omega), List.getElem?_take, if_pos (by omega), Array.getElem?_toList]
    exact h.2 i c (by omega) hc
  · split
    · rename_i q; subst q; rw [putR_same, Array.getElem?_toList]
    · rw [putR_ne _ _ (by omega), hz i (by omega), zero_get rfl _ _ _ (by omega) hc]
set_option maxRecDepth 100000 in
/-- Where a pattern can stand within a row of rules. -/
theorem at8_inR {w : World} {g o cap : Nat} {e : TypeId} {cur : Array Value} {R : Nat → Rl} {u : Tr} (h : w.heap[g]? = some (.cells cur e (0, 0))) (hR : RwC cur cap R) (q : At8 w g o u) : ∃ i, i < cap ∧ ((o = i * 22 + 3 ∧ u.k = (R i).rx.k) ∨ (o = i * 22 + 11 ∧ u.k = (R i).tr.k)) := by
  have key : ∀ c v, w.cell? ⟨g, c, none⟩ = some v → cur[c]? = some v := fun c v hc => by rw [cell_of_row w g c _ _ _ h] at hc; exact hc
  obtain ⟨q0, q1, _⟩ := q
  have k0 := key _ _ q0
  have k1 := key _ _ q1
  have ho : o < cap * 22 := by
    rw [← hR.1]
    rcases Nat.lt_or_ge o cur.size with z | z
    · exact z
    · rw [Array.getElem?_eq_none z] at k0; cases k0
  obtain ⟨i, c, hi, hc, rfl⟩ : ∃ i c, i < cap ∧ c < 22 ∧ o = i * 22 + c := ⟨o / 22, o % 22, by omega, by omega, by omega⟩
  rw [hR.2 i c hi hc] at k0
  have k2 : c < 21 → (row22 (R i))[c + 1]? = some (.int .u64 (u.s 0)) := fun hc => by rw [← hR.2 i (c + 1) hi (by omega)]; exact k1
  have k3 : c = 21 → False := fun hc => by
    subst hc
    rcases Nat.lt_or_ge (i + 1) cap with z | z
    · rw [show i * 22 + 21 + 1 = (i + 1) * 22 + 0 by omega, hR.2 (i + 1) 0 z (by omega)] at k1
      simp at k1
    · rw [Array.getElem?_eq_none (by rw [hR.1]; omega)] at k1; cases k1
  refine ⟨i, hi, ?_⟩
  match c, hc with
  | 0, _ => simp at k0
  | 1, _ => simp at k0
  | 2, _ => simp at k0
  | 3, _ => simp at k0; exact Or.inl ⟨rfl, k0.symm⟩
  | 4, _ => simp at k0
  | 5, _ => simp at k0
  | 6, _ => simp at k0
  | 7, _ => simp at k0
  | 8, _ => have := k2 (by omega); simp at this
  | 9, _ => have := k2 (by omega); simp at this
  | 10, _ => simp at k0
  | 11, _ => simp at k0; exact Or.inr ⟨rfl, k0.symm⟩
  | 12, _ => simp at k0
  | 13, _ => simp at k0
  | 14, _ => simp at k0
  | 15, _ => simp at k0
  | 16, _ => have := k2 (by omega); simp at this
  | 17, _ => have := k2 (by omega); simp at this
  | 18, _ => simp at k0
  | 19, _ => simp at k0
  | 20, _ => have := k2 (by omega); simp at this
  | 21, _ => exact (k3 rfl).elim
/-- A rule is written where there was none: patterns stand still. -/
theorem keepF_rows {w : World} {g n cap : Nat} {e : TypeId} {cur cur' : Array Value} {R : Nat → Rl} {r : Rl} (h : w.heap[g]? = some (.cells cur e (0, 0))) (hR : RwC cur cap R) (hz : R n = rZ) (hR' : RwC cur' cap (putR R n r)) : KeepF w (w.setRow g cur') := fun g' o u q hf => by
  by_cases hg : g' = g
  · subst hg
    have hn := setRow_heap w g' _ cur' _ _ h
    obtain ⟨i, hi, ho⟩ := at8_inR h hR q
    have hin : i ≠ n := fun e => by
      subst e
      rw [hz] at ho
      rcases ho with ⟨_, hk⟩ | ⟨_, hk⟩ <;> exact fits_k0 hf hk
    have key : ∀ j, 3 ≤ j → j ≤ 18 → ∀ v, w.cell? ⟨g', i * 22 + j, none⟩ = some v → (w.setRow g' cur').cell? ⟨g', i * 22 + j, none⟩ = some v := fun j j1 j2 v hv => by
      rw [cell_of_row w g' _ _ _ _ h, hR.2 i j hi (by omega)] at hv
      rw [cell_of_row _ g' _ _ _ _ hn, hR'.2 i j hi (by omega), putR_ne _ _ hin]
      exact hv
    obtain ⟨q0, q1, q2, q3, q4, q5, q6, q7⟩ := q
    rcases ho with ⟨rfl, _⟩ | ⟨rfl, _⟩
    · exact ⟨key 3 (by omega) (by omega) _ q0, key 4 (by omega) (by omega) _ q1, key 5 (by omega) (by omega) _ q2, key 6 (by omega) (by omega) _ q3, key 7 (by omega) (by omega) _ q4, key 8 (by omega) (by omega) _ q5, key 9 (by omega) (by omega) _ q6, key 10 (by omega) (by omega) _ q7⟩
    · exact ⟨key 11 (by omega) (by omega) _ q0, key 12 (by omega) (by omega) _ q1, key 13 (by omega) (by omega) _ q2, key 14 (by omega) (by omega) _ q3, key 15 (by omega) (by omega) _ q4, key 16 (by omega) (by omega) _ q5, key 17 (by omega) (by omega) _ q6, key 18 (by omega) (by omega) _ q7⟩
  · have key : ∀ c v, w.cell? ⟨g', c, none⟩ = some v → (w.setRow g cur').cell? ⟨g', c, none⟩ = some v := fun c v hv => by rw [cell_setRow_other _ _ _ _ hg]; exact hv
    obtain ⟨q0, q1, q2, q3, q4, q5, q6, q7⟩ := q
    exact ⟨key _ _ q0, key _ _ q1, key _ _ q2, key _ _ q3, key _ _ q4, key _ _ q5, key _ _ q6, key _ _ q7⟩
/-- A row of rules of the call's own: nil, or a block of rules, those behind the last being nothing. -/
structure RwI (w : World) (B : Nat) (l : Rs) : Prop where
  le : l.n ≤ l.cap
  max : l.cap ≤ maxLen
  z : ∀ i, l.n ≤ i → l.r i = rZ
  row : (l.a = none ∧ l.n = 0 ∧ l.cap = 0) ∨ ∃ g cur, l.a = some ⟨g, 0, none⟩ ∧ B ≤ g ∧ w.heap[g]? = some (.cells cur 46 (0, 0)) ∧ RwC cur l.cap l.r
/-- What an append leaves. -/
def AppI (w : World) (B : Nat) (l : Rs) (r : Rl) (v : Value) (w' : World) : Prop :=
  ∃ (a : Option Addr) (c : Nat), v = .slice a (l.n + 1 : Nat) c ∧ RwI w' B ⟨a, l.n + 1, c, putR l.r l.n r⟩ ∧ KeepF w w' ∧ w.grownBy w' l.val.ownBlock ∧ (∀ g, a = some ⟨g, 0, none⟩ → l.val.ownBlock = some g ∨ w.heap.size ≤ g)
set_option maxRecDepth 100000 in
theorem info42z : (Tryd.prog.info? 46).map (fun i => (i.zero, i.size, i.bytes)) = some (some (ruleV rZ), 22, 216) := by kernel_rfl
theorem info42p : ∃ i, Tryd.prog.info? 46 = some i ∧ i.zero = some (ruleV rZ) ∧ i.size = 22 ∧ i.bytes = 216 := by
  have h := info42z
  cases hq : Tryd.prog.info? 46 with
  | none => simp [hq] at h
  | some i =>
    simp only [hq, Option.map_some, Option.some.injEq, Prod.mk.injEq] at h
    exact ⟨i, rfl, h.1, h.2.1, h.2.2⟩
theorem news22 {w : World} {q : Nat} {e : TypeId} {r : Rl} (h : w.heap[q]? = some (.cells (row22 r) e (0, 0))) : ∀ j u, (row22 r).toList[j]? = some u → w.cell? ((⟨q, 0, none⟩ : Addr).add j) = some u := fun j u hu => by
  rw [Addr.add_lit, Nat.zero_add, cell_of_row w q j _ _ _ h]
  simpa using hu
set_option maxRecDepth 100000 in
theorem run_append22 (t ty : TypeId) (ht : Tryd.prog.underlying t = some (.slice 46)) {w : World} {B : Nat} {l : Rs} (h : RwI w B l) (hB : B ≤ w.heap.size) (hn : l.n ≤ 1000) {q c : Nat} {e : TypeId} {r : Rl} (hq : w.heap[q]? = some (.cells (row22 r) e (0, 0))) :
    ∃ v' w', (Builtin.append_ #[t, t] ty #[.slice l.a l.n l.cap, .slice (some ⟨q, 0, none⟩) 1 c]).run Tryd.prog w = .ok v' w' ∧ AppI w B l r v' w' := by
  obtain ⟨i, hi, hz, hs, hb⟩ := info42p
  obtain ⟨a, n, cap, R⟩ := l
  have hz0 := h.z
  have hle := h.le
  have hmx := h.max
  dsimp only at hn hz0 hle hmx
  have hl1 : (row22 r).toList.length = 1 * i.size := by rw [hs]; rfl
  rcases h.row with ⟨ha, h0, hc0⟩ | ⟨g, cur, ha, hBg, hg, hR⟩
  · dsimp only at ha h0 hc0
    subst ha h0 hc0
    have hr := run_append_nil (P := Tryd.prog) w t ty 46 i _ ht hi hz ⟨q, 0, none⟩ 1 c (row22 r).toList hl1 (news22 hq) (by omega) (by omega) (by rw [hb]; omega)
    have hbel : Below w.heap.size w (w.drew.alloc (.cells ((row22 r).toList.toArray ++ Builtin.zeroCells (ruleV rZ).cells (grownCap w 1 0 46 - 1)) 46)) := ((Below.refl _ w).drew).alloc (by simp) _
    refine ⟨_, _, hr, some ⟨w.heap.size, 0, none⟩, grownCap w 1 0 46, rfl, ⟨grownCap_ge w 1 0 _, grownCap_le_maxLen w 1 0 _ (by simp [maxLen]), fun j hj => by dsimp only at hj ⊢; rw [putR_ne _ _ (by omega)]; exact hz0 j (by omega), Or.inr ⟨w.heap.size, _, rfl, hB, heap_alloc_new w.drew _, ?_⟩⟩, keepF_below hbel, grown_of_below hbel _, fun g hg => Or.inr (by cases hg; exact Nat.le_refl _)⟩
    have := rw_grow (cur := #[]) (n := 0) (cap := 0) (R := R) ⟨rfl, fun i c hi => absurd hi (by omega)⟩ (by omega) hz0 r (grownCap_ge w 1 0 46)
    have e0 : (ruleV rZ).cells = row22 rZ := rfl
    rw [e0]
    simpa using this
  · dsimp only at ha hR
    subst ha
    have hsz : w.cell? ⟨g, 0, none⟩ = cur[0]? := cell_of_row w g 0 _ _ _ hg
    by_cases hroom : n + 1 ≤ cap
    · have hfit : n * i.size + (row22 r).toList.length ≤ cur.size := by rw [hs, hR.1]; show n * 22 + 22 ≤ _; omega
      have hr := run_append_room (P := Tryd.prog) w t ty 46 i ht hi g n cap cur hg ⟨q, 0, none⟩ 1 c (row22 r).toList hl1 (news22 hq) (one22 r) hroom hfit
      rw [hs] at hr
      have hRw := rw_room hR (show n < cap by omega) r
      refine ⟨_, _, hr, some ⟨g, 0, none⟩, cap, rfl, ⟨hroom, hmx, fun j hj => by dsimp only at hj ⊢; rw [putR_ne _ _ (by omega)]; exact hz0 j (by omega), Or.inr ⟨g, _, rfl, hBg, setRow_heap w g cur _ _ _ hg, hRw⟩⟩, keepF_rows hg hR (hz0 n (Nat.le_refl _)) hRw, setRow_grown_x _ _ _, fun g' hg' => Or.inl (by cases hg'; rfl)⟩
    · have hcl : ∀ j u, (cur.toList.take (n * 22))[j]? = some u → w.cell? ((⟨g, 0, none⟩ : Addr).add j) = some u := fun j u hu => by
        rw [Addr.add_lit, Nat.zero_add, cell_of_row w g j _ _ _ hg]
        rw [List.getElem?_take] at hu
        split at hu
        · simpa using hu
        · cases hu
      have hlo : (cur.toList.take (n * 22)).length = n * i.size := by rw [hs, List.length_take, Array.length_toList, hR.1]; omega
      have hr := run_append_grow (P := Tryd.prog) w t ty 46 i _ ht hi hz ⟨g, 0, none⟩ n cap (cur.toList.take (n * 22)) hlo hcl ⟨q, 0, none⟩ 1 c (row22 r).toList hl1 (news22 hq) (by omega) (by omega) (growslice_fits (by omega) (by rw [hb]; omega))
      have hbel : Below w.heap.size w (w.drew.alloc (.cells ((cur.toList.take (n * 22)).toArray ++ (row22 r).toList.toArray ++ Builtin.zeroCells (ruleV rZ).cells (grownCap w (n + 1) cap 46 - (n + 1))) 46)) := ((Below.refl _ w).drew).alloc (by simp) _
      refine ⟨_, _, hr, some ⟨w.heap.size, 0, none⟩, grownCap w (n + 1) cap 46, rfl, ⟨grownCap_ge w (n + 1) cap _, grownCap_le_maxLen w (n + 1) cap _ (by simp [maxLen]; omega), fun j hj => by dsimp only at hj ⊢; rw [putR_ne _ _ (by omega)]; exact hz0 j (by omega), Or.inr ⟨w.heap.size, _, rfl, hB, heap_alloc_new w.drew _, ?_⟩⟩, keepF_below hbel, grown_of_below hbel _, fun g hg => Or.inr (by cases hg; exact Nat.le_refl _)⟩
      exact rw_grow hR (by omega) hz0 r (grownCap_ge w (n + 1) cap 46)
/-- The same, an operation of a region. -/
theorem step_append22 {w : World} {ops : Array Oper} {o : Oper} {a : Act} {K : Act → World → Prop} {Q : Exit → Act → World → Prop} {X : Prop} (hgd : o.guard = none) (s x : Operand) (t : TypeId)
    (ho : o.op = .call { callee := .builtin .append, args := #[s, x], argTypes := #[t, t] }) (ht : Tryd.prog.underlying t = some (.slice 46)) (B : Nat) (l : Rs) (hs : a.eval s = .slice l.a l.n l.cap) (hI : RwI w B l) (hB : B ≤ w.heap.size) (hn : l.n ≤ 1000)
    (q c : Nat) (e : TypeId) (r : Rl) (hx : a.eval x = .slice (some ⟨q, 0, none⟩) 1 c) (hq : w.heap[q]? = some (.cells (row22 r) e (0, 0))) (h : ∀ v' w', AppI w B l r v' w' → K (a.put o.dst v') w') :
    if Region.wanted o (yielded ops a.tmps) = true then Oper.wp Tryd.prog o a w K Q else X := by
  have hw : Region.wanted o (yielded ops a.tmps) = true := by simp [Region.wanted, hgd]
  rw [if_pos hw]
  obtain ⟨v', w', hr, hA⟩ := run_append22 t o.type ht hI hB hn (c := c) hq
  unfold Oper.wp execOp
  simp only [ho, resolve, invoke, builtin, Sem.run_bind, Sem.run_pure, Result.andThen_ok, List.map_toArray, List.map_cons, List.map_nil, hs, hx, hr]
  exact h v' w' hA
end Go.Proofs.YtnfchlkdppblfaaDoor
