/- Rows of rules that the call itself makes: what lies in the block, and what an append makes of it. -/
import Derived.Test.YtnfchlkdppblfaaGreatDoorHd
import Derived.Deep.AppendSrc
namespace Go.Proofs.YtnfchlkdppblfaaGreatDoor
open Go.RowKit Go
/-- A block holds rules, one behind the other, and nothing else. -/
def RwC (cur : Array Value) (cap : Nat) (R : Nat → Rl) : Prop := cur.size = cap * 22 ∧ ∀ i c, i < cap → c < 22 → cur[i * 22 + c]? = (row22 (R i))[c]?
/-- One rule more. -/
def putR (R : Nat → Rl) (n : Nat) (r : Rl) : Nat → Rl := fun i => if i = n then r else R i
theorem putR_same (R : Nat → Rl) (n : Nat) (r : Rl) : putR R n r n = r := if_pos rfl
theorem putR_ne (R : Nat → Rl) {n i : Nat} (r : Rl) (h : i ≠ n) : putR R n r i = R i := if_neg h
theorem get3 {A B C : List Value} {n cap : Nat} (hA : A.length = n * 22) (hB : B.length = 22) (i c : Nat) (hc : c < 22) :
    (A ++ B ++ C)[i * 22 + c]? = if i < n then A[i * 22 + c]? else if i = n then B[c]? else C[(i - n - 1) * 22 + c]? := by
  split
  · rename_i h
    rw [List.append_assoc, List.getElem?_append_left (by omega)]
  · split
    · rename_i h
      subst h
      rw [List.append_assoc, List.getElem?_append_right (by omega), List.getElem?_append_left (by omega), hA]
      congr 1; omega
    · rw [List.getElem?_append_right (by simp; omega), List.length_append, hA, hB]
      congr 1; omega
theorem zero_get {z : Array Value} (hz : z.size = 22) (m i c : Nat) (hi : i < m) (hc : c < 22) : (Builtin.zeroCells z m).toList[i * 22 + c]? = z[c]? := by
  have h1 : i * 22 + c < m * 22 := by omega
  have h2 : (i * 22 + c) % 22 = c := by omega
  unfold Builtin.zeroCells
  rw [Array.getElem?_toList, Array.getElem?_map, hz]
  rw [Array.getElem?_range, if_pos h1]
  simp [h2, hz, hc]
/-- There is room. -/
theorem rw_room {cur : Array Value} {n cap : Nat} {R : Nat → Rl} (h : RwC cur cap R) (hn : n < cap) (r : Rl) : RwC (cur.toList.take (n * 22) ++ (row22 r).toList ++ cur.toList.drop (n * 22 + 22)).toArray cap (putR R n r) := by
  have hl : cur.toList.length = cap * 22 := by rw [Array.length_toList]; exact h.1
  have hA : (cur.toList.take (n * 22)).length = n * 22 := by rw [List.length_take, hl]; omega
  refine ⟨by simp only [List.size_toArray, List.length_append, List.length_drop, hA, hl]; show n * 22 + 22 + _ = _; omega, fun i c hi hc => ?_⟩
  rw [List.getElem?_toArray, get3 (n := n) (cap := cap) hA rfl i c hc]
  split
  · rename_i q
    rw [putR_ne _ _ (by omega), List.getElem?_take, if_pos (by omega), Array.getElem?_toList]
    exact h.2 i c hi hc
  · split
    · rename_i q; subst q; rw [putR_same, Array.getElem?_toList]
    · rw [putR_ne _ _ (by omega), List.getElem?_drop, Array.getElem?_toList, ← h.2 i c hi hc]
      congr 1; omega
/-- There is none. -/
theorem rw_grow {cur : Array Value} {n cap cap' : Nat} {R : Nat → Rl} (h : RwC cur cap R) (hn : n ≤ cap) (hz : ∀ i, n ≤ i → R i = rZ) (r : Rl) (hc' : n + 1 ≤ cap') :
    RwC ((cur.toList.take (n * 22)).toArray ++ (row22 r).toList.toArray ++ Builtin.zeroCells (row22 rZ) (cap' - (n + 1))) cap' (putR R n r) := by
  have hl : cur.toList.length = cap * 22 := by rw [Array.length_toList]; exact h.1
  have hA : (cur.toList.take (n * 22)).length = n * 22 := by rw [List.length_take, hl]; omega
  refine ⟨by simp only [Array.size_append, List.size_toArray, hA, size_zeroCells]; show n * 22 + 22 + _ * 22 = _; omega, fun i c hi hc => ?_⟩
  rw [← Array.getElem?_toList]
  simp only [Array.toList_append, List.toList_toArray]
  rw [get3 (n := n) (cap := cap) hA rfl i c hc]
  split
  · rename_i q
    rw [putR_ne _ _ (by omega), List.getElem?_take, if_pos (by omega), Array.getElem?_toList]
    exact h.2 i c (by omega) hc
  · split
    · rename_i q; subst q; rw [putR_same, Array.getElem?_toList]
    · rw [putR_ne _ _ (by omega), hz i (by omega), zero_get rfl _ _ _ (by omega) hc]
set_option maxRecDepth 100000 in
/-- Where a pattern can stand within a row of rules. -/
theorem at8_inR {w : World} {g o cap : Nat} {e : TypeId} {cur : Array Value} {R : Nat → Rl} {u : Tr} (h : w.heap[g]? = some (.cells cur e (0, 0))) (hR : RwC cur cap R) (q : At8 w g o u) : ∃ i, i < cap ∧ ((o = i * 22 + 3 ∧ u.k = (R i).rx.k) ∨ (o = i * 22 + 11 ∧ u.k = (R i).tr.k)) := by
  have key : ∀ c v, w.cell? ⟨g, c, none⟩ = some v → cur[c]? = some v := fun c v hc => by rw [cell_of_row w g c _ _ _ h] at hc; exact hc
  obtain ⟨q0, q1, _⟩ := q
  have k0 := key _ _ q0
  have k1 := key _ _ q1
  have ho : o < cap * 22 := by
    rw [← hR.1]
    rcases Nat.lt_or_ge o cur.size with z | z
    · exact z
    · rw [Array.getElem?_eq_none z] at k0; cases k0
  obtain ⟨i, c, hi, hc, rfl⟩ : ∃ i c, i < cap ∧ c < 22 ∧ o = i * 22 + c := ⟨o / 22, o % 22, by omega, by omega, by omega⟩
  rw [hR.2 i c hi hc] at k0
  have k2 : c < 21 → (row22 (R i))[c + 1]? = some (.int .u64 (u.s 0)) := fun hc => by rw [← hR.2 i (c + 1) hi (by omega)]; exact k1
  have k3 : c = 21 → False := fun hc => by
    subst hc
    rcases Nat.lt_or_ge (i + 1) cap with z | z
    · rw [show i * 22 + 21 + 1 = (i + 1) * 22 + 0 by omega, hR.2 (i + 1) 0 z (by omega)] at k1
      simp at k1
    · rw [Array.getElem?_eq_none (by rw [hR.1]; omega)] at k1; cases k1
  refine ⟨i, hi, ?_⟩
  match c, hc with
  | 0, _ => simp at k0
  | 1, _ => simp at k0
  | 2, _ => simp at k0
  | 3, _ => simp at k0; exact Or.inl ⟨rfl, k0.symm⟩
  | 4, _ => simp at k0
  | 5, _ => simp at k0
  | 6, _ => simp at k0
  | 7, _ => simp at k0
  | 8, _ => have := k2 (by omega); simp at this
  | 9, _ => have := k2 (by omega); simp at this
  | 10, _ => simp at k0
  | 11, _ => simp at k0; exact Or.inr ⟨rfl, k0.symm⟩
  | 12, _ => simp at k0
  | 13, _ => simp at k0
  | 14, _ => simp at k0
  | 15, _ => simp at k0
  | 16, _ => have := k2 (by omega); simp at this
  | 17, _ => have := k2 (by omega); simp at this
  | 18, _ => simp at k0
  | 19, _ => simp at k0
  | 20, _ => have := k2 (by omega); simp at this
  | 21, _ => exact (k3 rfl).elim
/-- A rule is written where there was none: patterns stand still. -/
theorem keepF_rows {w : World} {g n cap : Nat} {e : TypeId} {cur cur' : Array Value} {R : Nat → Rl} {r : Rl} (h : w.heap[g]? = some (.cells cur e (0, 0))) (hR : RwC cur cap R) (hz : R n = rZ) (hR' : RwC cur' cap (putR R n r)) : KeepF w (w.setRow g cur') := fun g' o u q hf => by
  by_cases hg : g' = g
  · subst hg
    have hn := setRow_heap w g' _ cur' _ _ h
    obtain ⟨i, hi, ho⟩ := at8_inR h hR q
    have hin : i ≠ n := fun e => by
      subst e
      rw [hz] at ho
      rcases ho with ⟨_, hk⟩ | ⟨_, hk⟩ <;> exact fits_k0 hf hk
    have key : ∀ j, 3 ≤ j → j ≤ 18 → ∀ v, w.cell? ⟨g', i * 22 + j, none⟩ = some v → (w.setRow g' cur').cell? ⟨g', i * 22 + j, none⟩ = some v := fun j j1 j2 v hv => by
      rw [cell_of_row w g' _ _ _ _ h, hR.2 i j hi (by omega)] at hv
      rw [cell_of_row _ g' _ _ _ _ hn, hR'.2 i j hi (by omega), putR_ne _ _ hin]
      exact hv
    obtain ⟨q0, q1, q2, q3, q4, q5, q6, q7⟩ := q
    rcases ho with ⟨rfl, _⟩ | ⟨rfl, _⟩
    · exact ⟨key 3 (by omega) (by omega) _ q0, key 4 (by omega) (by omega) _ q1, key 5 (by omega) (by omega) _ q2, key 6 (by omega) (by omega) _ q3, key 7 (by omega) (by omega) _ q4, key 8 (by omega) (by omega) _ q5, key 9 (by omega) (by omega) _ q6, key 10 (by omega) (by omega) _ q7⟩
    · exact ⟨key 11 (by omega) (by omega) _ q0, key 12 (by omega) (by omega) _ q1, key 13 (by omega) (by omega) _ q2, key 14 (by omega) (by omega) _ q3, key 15 (by omega) (by omega) _ q4, key 16 (by omega) (by omega) _ q5, key 17 (by omega) (by omega) _ q6, key 18 (by omega) (by omega) _ q7⟩
  · have key : ∀ c v, w.cell? ⟨g', c, none⟩ = some v → (w.setRow g cur').cell? ⟨g', c, none⟩ = some v := fun c v hv => by rw [cell_setRow_other _ _ _ _ hg]; exact hv
    obtain ⟨q0, q1, q2, q3, q4, q5, q6, q7⟩ := q
    exact ⟨key _ _ q0, key _ _ q1, key _ _ q2, key _ _ q3, key _ _ q4, key _ _ q5, key _ _ q6, key _ _ q7⟩
/-- A row of rules of the call's own: nil, or a block of rules, those behind the last being nothing. -/
structure RwI (w : World) (B : Nat) (l : Rs) : Prop where
  le : l.n ≤ l.cap
  max : l.cap ≤ maxLen
  z : ∀ i, l.n ≤ i → l.r i = rZ
  row : (l.a = none ∧ l.n = 0 ∧ l.cap = 0) ∨ ∃ g cur, l.a = some ⟨g, 0, none⟩ ∧ B ≤ g ∧ w.heap[g]? = some (.cells cur 43 (0, 0)) ∧ RwC cur l.cap l.r
/-- What an append leaves. -/
def AppI (w : World) (B : Nat) (l : Rs) (r : Rl) (v : Value) (w' : World) : Prop :=
  ∃ (a : Option Addr) (c : Nat), v = .slice a (l.n + 1 : Nat) c ∧ RwI w' B ⟨a, l.n + 1, c, putR l.r l.n r⟩ ∧ KeepF w w' ∧ w.grownBy w' l.val.ownBlock ∧ (∀ g, a = some ⟨g, 0, none⟩ → l.val.ownBlock = some g ∨ w.heap.size ≤ g)
set_option maxRecDepth 100000 in
theorem info42z : (Tryz.prog.info? 43).map (fun i => (i.zero, i.size, i.bytes)) = some (some (ruleV rZ), 22, 216) := by kernel_rfl
theorem info42p : ∃ i, Tryz.prog.info? 43 = some i ∧ i.zero = some (ruleV rZ) ∧ i.size = 22 ∧ i.bytes = 216 := by
  have h := info42z
  cases hq : Tryz.prog.info? 43 with
  | none => simp [hq] at h
  | some i =>
    simp only [hq, Option.map_some, Option.some.injEq, Prod.mk.injEq] at h
    exact ⟨i, rfl, h.1, h.2.1, h.2.2⟩
theorem news22 {w : World} {q : Nat} {e : TypeId} {r : Rl} (h : w.heap[q]? = some (.cells (row22 r) e (0, 0))) : ∀ j u, (row22 r).toList[j]? = some u → w.cell? ((⟨q, 0, none⟩ : Addr).add j) = some u := fun j u hu => by
  rw [Addr.add_lit, Nat.zero_add, cell_of_row w q j _ _ _ h]
  simpa using hu
set_option maxRecDepth 100000 in
theorem run_append22 (t ty : TypeId) (ht : Tryz.prog.underlying t = some (.slice 43)) {w : World} {B : Nat} {l : Rs} (h : RwI w B l) (hB : B ≤ w.heap.size) (hn : l.n ≤ 1000) {q c : Nat} {e : TypeId} {r : Rl} (hq : w.heap[q]? = some (.cells (row22 r) e (0, 0))) :
    ∃ v' w', (Builtin.append_ #[t, t] ty #[.slice l.a l.n l.cap, .slice (some ⟨q, 0, none⟩) 1 c]).run Tryz.prog w = .ok v' w' ∧ AppI w B l r v' w' := by
  obtain ⟨i, hi, hz, hs, hb⟩ := info42p
  obtain ⟨a, n, cap, R⟩ := l
  have hz0 := h.z
  have hle := h.le
  have hmx := h.max
  dsimp only at hn hz0 hle hmx
  have hl1 : (row22 r).toList.length = 1 * i.size := by rw [hs]; rfl
  rcases h.row with ⟨ha, h0, hc0⟩ | ⟨g, cur, ha, hBg, hg, hR⟩
  · dsimp only at ha h0 hc0
    subst ha h0 hc0
    have hr := run_append_nil (P := Tryz.prog) w t ty 43 i _ ht hi hz ⟨q, 0, none⟩ 1 c (row22 r).toList hl1 (news22 hq) (by omega) (by omega) (by rw [hb]; omega)
    have hbel : Below w.heap.size w (w.drew.alloc (.cells ((row22 r).toList.toArray ++ Builtin.zeroCells (ruleV rZ).cells (grownCap w 1 0 43 - 1)) 43)) := ((Below.refl _ w).drew).alloc (by simp) _
    refine ⟨_, _, hr, some ⟨w.heap.size, 0, none⟩, grownCap w 1 0 43, rfl, ⟨grownCap_ge w 1 0 _, grownCap_le_maxLen w 1 0 _ (by simp [maxLen]), fun j hj => by dsimp only at hj ⊢; rw [putR_ne _ _ (by omega)]; exact hz0 j (by omega), Or.inr ⟨w.heap.size, _, rfl, hB, heap_alloc_new w.drew _, ?_⟩⟩, keepF_below hbel, grown_of_below hbel _, fun g hg => Or.inr (by cases hg; exact Nat.le_refl _)⟩
    have := rw_grow (cur := #[]) (n := 0) (cap := 0) (R := R) ⟨rfl, fun i c hi => absurd hi (by omega)⟩ (by omega) hz0 r (grownCap_ge w 1 0 43)
    have e0 : (ruleV rZ).cells = row22 rZ := rfl
    rw [e0]
    simpa using this
  · dsimp only at ha hR
    subst ha
    have hsz : w.cell? ⟨g, 0, none⟩ = cur[0]? := cell_of_row w g 0 _ _ _ hg
    by_cases hroom : n + 1 ≤ cap
    · have hfit : n * i.size + (row22 r).toList.length ≤ cur.size := by rw [hs, hR.1]; show n * 22 + 22 ≤ _; omega
      have hr := run_append_room (P := Tryz.prog) w t ty 43 i ht hi g n cap cur hg ⟨q, 0, none⟩ 1 c (row22 r).toList hl1 (news22 hq) (one22 r) hroom hfit
      rw [hs] at hr
      have hRw := rw_room hR (show n < cap by omega) r
      refine ⟨_, _, hr, some ⟨g, 0, none⟩, cap, rfl, ⟨hroom, hmx, fun j hj => by dsimp only at hj ⊢; rw [putR_ne _ _ (by omega)]; exact hz0 j (by omega), Or.inr ⟨g, _, rfl, hBg, setRow_heap w g cur _ _ _ hg, hRw⟩⟩, keepF_rows hg hR (hz0 n (Nat.le_refl _)) hRw, setRow_grown_x _ _ _, fun g' hg' => Or.inl (by cases hg'; rfl)⟩
    · have hcl : ∀ j u, (cur.toList.take (n * 22))[j]? = some u → w.cell? ((⟨g, 0, none⟩ : Addr).add j) = some u := fun j u hu => by
        rw [Addr.add_lit, Nat.zero_add, cell_of_row w g j _ _ _ hg]
        rw [List.getElem?_take] at hu
        split at hu
        · simpa using hu
        · cases hu
      have hlo : (cur.toList.take (n * 22)).length = n * i.size := by rw [hs, List.length_take, Array.length_toList, hR.1]; omega
      have hr := run_append_grow (P := Tryz.prog) w t ty 43 i _ ht hi hz ⟨g, 0, none⟩ n cap (cur.toList.take (n * 22)) hlo hcl ⟨q, 0, none⟩ 1 c (row22 r).toList hl1 (news22 hq) (by omega) (by omega) (growslice_fits (by omega) (by rw [hb]; omega))
      have hbel : Below w.heap.size w (w.drew.alloc (.cells ((cur.toList.take (n * 22)).toArray ++ (row22 r).toList.toArray ++ Builtin.zeroCells (ruleV rZ).cells (grownCap w (n + 1) cap 43 - (n + 1))) 43)) := ((Below.refl _ w).drew).alloc (by simp) _
      refine ⟨_, _, hr, some ⟨w.heap.size, 0, none⟩, grownCap w (n + 1) cap 43, rfl, ⟨grownCap_ge w (n + 1) cap _, grownCap_le_maxLen w (n + 1) cap _ (by simp [maxLen]; omega), fun j hj => by dsimp only at hj ⊢; rw [putR_ne _ _ (by omega)]; exact hz0 j (by omega), Or.inr ⟨w.heap.size, _, rfl, hB, heap_alloc_new w.drew _, ?_⟩⟩, keepF_below hbel, grown_of_below hbel _, fun g hg => Or.inr (by cases hg; exact Nat.le_refl _)⟩
      exact rw_grow hR (by omega) hz0 r (grownCap_ge w (n + 1) cap 43)
/-- The same, an operation of a region. -/
theorem step_append22 {w : World} {ops : Array Oper} {o : Oper} {a : Act} {K : Act → World → Prop} {Q : Exit → Act → World → Prop} {X : Prop} (hgd : o.guard = none) (s x : Operand) (t : TypeId)
    (ho : o.op = .call { callee := .builtin .append, args := #[s, x], argTypes := #[t, t] }) (ht : Tryz.prog.underlying t = some (.slice 43)) (B : Nat) (l : Rs) (hs : a.eval s = .slice l.a l.n l.cap) (hI : RwI w B l) (hB : B ≤ w.heap.size) (hn : l.n ≤ 1000)
    (q c : Nat) (e : TypeId) (r : Rl) (hx : a.eval x = .slice (some ⟨q, 0, none⟩) 1 c) (hq : w.heap[q]? = some (.cells (row22 r) e (0, 0))) (h : ∀ v' w', AppI w B l r v' w' → K (a.put o.dst v') w') :
    if Region.wanted o (yielded ops a.tmps) = true then Oper.wp Tryz.prog o a w K Q else X := by
  have hw : Region.wanted o (yielded ops a.tmps) = true := by simp [Region.wanted, hgd]
  rw [if_pos hw]
  obtain ⟨v', w', hr, hA⟩ := run_append22 t o.type ht hI hB hn (c := c) hq
  unfold Oper.wp execOp
  simp only [ho, resolve, invoke, builtin, Sem.run_bind, Sem.run_pure, Result.andThen_ok, List.map_toArray, List.map_cons, List.map_nil, hs, hx, hr]
  exact h v' w' hA
end Go.Proofs.YtnfchlkdppblfaaGreatDoor
/- The law's Made of layer 6: what lies in memory while a specification is made. -/
namespace Go.Proofs.YtnfchlkdppblfaaGreatDoor
open Go.RowKit Go
abbrev row6 (ex : Bool) : Array Value := #[.string ⟨#[73, 78, 73, 84, 73, 65, 76]⟩, .bool false, .string ⟨#[66]⟩, .bool ex, .string ⟨#[67, 95, 49]⟩, .bool false]
def cnM (ex : Bool) (i : Nat) : Cn := if i = 0 then ⟨⟨#[73, 78, 73, 84, 73, 65, 76]⟩, false⟩ else if i = 1 then ⟨⟨#[66]⟩, ex⟩ else ⟨⟨#[67, 95, 49]⟩, false⟩
/-- The conditions. -/
def csM (c k : Nat) (ex : Bool) : Cs := ⟨some ⟨c, 0, none⟩, k, 3, cnM ex⟩
set_option maxRecDepth 100000 in
theorem csM_right (c k : Nat) (ex : Bool) (h1 : 1 ≤ k) (h3 : k ≤ 3) : condsB (csM c k ex) = true := by
  have key : ∀ k : Nat, (k = 1 ∨ k = 2 ∨ k = 3) → ∀ ex : Bool, (decide (1 ≤ k) && (decide (k ≤ 8) && (initC (cnM ex 0) && namesB (cnM ex) k))) = true := by
    rintro k (rfl | rfl | rfl) (_ | _) <;> decide +kernel
  exact key k (by omega) ex
theorem csM_in {w : World} {B c k : Nat} {ex : Bool} {e : TypeId} (h : w.heap[c]? = some (.cells (row6 ex) e (0, 0))) (hc : c < B) (h3 : k ≤ 3) : CsIn w B (csM c k ex) := by
  have key : ∀ j v, (row6 ex)[j]? = some v → w.cell? ⟨c, j, none⟩ = some v := fun j v hv => (cell_of_row w c j _ _ _ h).trans hv
  refine ⟨h3, by show 3 ≤ maxLen; simp [maxLen], fun _ => ⟨c, 0, rfl, hc, fun i hi => ?_⟩, fun i hi => ?_⟩
  · have hi' : i < k := hi
    have : i = 0 ∨ i = 1 ∨ i = 2 := by omega
    rcases this with rfl | rfl | rfl
    · exact ⟨key 0 _ rfl, key 1 _ rfl⟩
    · exact ⟨key 2 _ rfl, key 3 _ rfl⟩
    · exact ⟨key 4 _ rfl, key 5 _ rfl⟩
  · show (cnM ex i).nm.size ≤ maxLen
    unfold cnM
    split
    · simp [maxLen, ByteArray.size]
    · split <;> simp [maxLen, ByteArray.size]
/-- A box that holds no numbers holds no pattern. -/
abbrev spO (v0 : Value) (b : Bool) (v2 : Value) : Array Value := #[v0, .bool b, v2]
theorem keepF_spec {w w' : World} {x : Nat} {a1 a2 : Option Addr} {n1 c1 n2 c2 : Nat} {b : Bool} {e : TypeId} (h : w.heap[x]? = some (.cells #[.slice a1 n1 c1, .bool b, .slice a2 n2 c2] e (0, 0))) (hG : ∀ g, g < w.heap.size → g ≠ x → w'.heap[g]? = w.heap[g]?) : KeepF w w' :=
  keepF_but (x := x) (fun o u q _ => by
    have q0 := q.1
    rw [cell_of_row w x o _ _ _ h] at q0
    match o with
    | 0 => simp at q0
    | 1 => simp at q0
    | 2 => simp at q0
    | k + 3 => simp at q0) hG
theorem noneB_n {t : Tr} (h : noneB t = true) : t.n = 0 := by
  unfold noneB at h
  rw [sameT_eq, Bool.and_eq_true] at h
  have := h.1
  unfold likeB at this
  simp only [Bool.and_eq_true, decide_eq_true_eq] at this
  exact this.2.2.2.2
theorem lives_bare {w w' : World} {B B' : Nat} : ∀ {t : Tr}, t.n = 0 → Lives w B t → Lives w' B' t
  | .node _ _ _ _ _ n _ _, h, ⟨hs, h1, h2, _, _⟩ => ⟨hs, h1, h2, fun hp => absurd hp (by have : n = 0 := h; omega), fun i hi => absurd hi (by have : n = 0 := h; omega)⟩
  | .nul, _, h => False.elim h
theorem right_fit {t : Tr} (h : rightB t = true) : fitT t = true := by
  unfold rightB at h
  simp only [Bool.and_eq_true] at h
  exact fit_of_ok h.1
theorem lives_or {w w' : World} {B B' : Nat} (hK : KeepF w w') (hB : B ≤ B') {t : Tr} (h : noneB t = true ∨ rightB t = true) (hL : Lives w B t) : Lives w' B' t := by
  rcases h with h | h
  · exact lives_bare (noneB_n h) hL
  · exact (hL.keep hK (right_fit h)).mono hB
theorem rule_pats {r : Rl} {k : Int} (h : ruleB r k = true) : (noneB r.rx = true ∨ rightB r.rx = true) ∧ (noneB r.tr = true ∨ rightB r.tr = true) := by
  unfold ruleB patB at h
  simp only [Bool.and_eq_true] at h
  have h2 := h.2.2
  split at h2
  · simp only [Bool.and_eq_true] at h2; exact ⟨Or.inl h2.2.1, Or.inl h2.2.2⟩
  · simp only [Bool.and_eq_true, Bool.or_eq_true] at h2; exact ⟨Or.inr h2.1, h2.2⟩
/-- A rule that is made: right, and its conditions lie apart from the row of rules. -/
def RlK (W : World) (B : Nat) (own : Option Nat) (r : Rl) (k : Nat) : Prop :=
  RlIn W W.heap.size r ∧ ruleB r k = true ∧ (cnt r.rx ≤ 100 ∧ cnt r.tr ≤ 100) ∧ (0 < r.cn → ∃ g off, r.ca = some ⟨g, off, none⟩ ∧ B ≤ g ∧ some g ≠ own)
theorem RlK.keep {W W' : World} {B : Nat} {own own' : Option Nat} {r : Rl} {k : Nat} (h : RlK W B own r k) (hK : KeepF W W') (hs : W.heap.size ≤ W'.heap.size) (hb : ∀ g, B ≤ g → g < W.heap.size → some g ≠ own → W'.heap[g]? = W.heap[g]?)
    (ho : ∀ g, B ≤ g → g < W.heap.size → some g ≠ own → some g ≠ own') : RlK W' B own' r k := by
  obtain ⟨⟨⟨i1, i2, i3, i4⟩, lx, lt⟩, hr, hc, hg⟩ := h
  obtain ⟨px, pt⟩ := rule_pats hr
  refine ⟨⟨⟨i1, i2, fun hp => ?_, i4⟩, lives_or hK hs px lx, lives_or hK hs pt lt⟩, hr, hc, fun hp => ?_⟩
  · obtain ⟨g, off, e, hB, hne⟩ := hg hp
    obtain ⟨g', off', e', hlt, hcl⟩ := i3 hp
    rw [e] at e'
    cases e'
    exact ⟨g, off, e, Nat.lt_of_lt_of_le hlt hs, fun i hi => (World.cell?_of_block (a := ⟨g, off + i, none⟩) (hb g hB hlt hne)).trans (hcl i hi)⟩
  · obtain ⟨g, off, e, hB, hne⟩ := hg hp
    obtain ⟨g', off', e', hlt, _⟩ := i3 hp
    rw [e] at e'
    cases e'
    exact ⟨g, off, e, hB, ho g hB hlt hne⟩
/-- While a specification is made. -/
structure MdI (w : World) (p : Nat) (a : Option Addr) (n cap : Nat) (F : Nat → Int) (x c k : Nat) (ex b : Bool) (l : Rs) (A : Nat) (W : World) : Prop where
  box : W.heap[x]? = some (.cells #[.slice (some ⟨c, 0, none⟩) k 3, .bool b, .slice l.a l.n l.cap] 29 (0, 0))
  con : W.heap[c]? = some (.cells (row6 ex) 45 (0, 0))
  out : W.heap[w.heap.size]? = some (.cells #[.slice none 0 0, .bool false, .slice none 0 0] 29 (0, 0))
  mkr : Mk W p a n cap F A
  bel : Below w.heap.size w W
  old : w.heap.size < p ∧ p < x ∧ p < c ∧ x ≠ c
  rws : RwI W (max x c + 1) l
  rul : ∀ i, i < l.n → RlK W (max x c + 1) l.val.ownBlock (l.r i) k
theorem MdI.lt {w : World} {p : Nat} {a : Option Addr} {n cap : Nat} {F : Nat → Int} {x c k : Nat} {ex b : Bool} {l : Rs} {A : Nat} {W : World} (h : MdI w p a n cap F x c k ex b l A W) : max x c + 1 ≤ W.heap.size := by
  have := lt_of_heap h.box; have := lt_of_heap h.con; omega
theorem RwI.keep {W W' : World} {B : Nat} {l : Rs} (h : RwI W B l) (hb : ∀ g, B ≤ g → g < W.heap.size → W'.heap[g]? = W.heap[g]?) : RwI W' B l := by
  refine ⟨h.le, h.max, h.z, ?_⟩
  rcases h.row with q | ⟨g, cur, ha, hB, hg, hR⟩
  · exact Or.inl q
  · exact Or.inr ⟨g, cur, ha, hB, (hb g hB (lt_of_heap hg)).trans hg, hR⟩
/-- The maker goes on. -/
theorem MdI.pick {w : World} {p : Nat} {a : Option Addr} {n cap : Nat} {F : Nat → Int} {x c k : Nat} {ex b : Bool} {l : Rs} {A A' : Nat} {W W' : World} (h : MdI w p a n cap F x c k ex b l A W) (hM : Mk W' p a n cap F A') (hG : W.grownBy W' (some p)) : MdI w p a n cap F x c k ex b l A' W' := by
  obtain ⟨o1, o2, o3, o4⟩ := h.old
  have hbl : ∀ g, g < W.heap.size → g ≠ p → W'.heap[g]? = W.heap[g]? := fun g h1 h2 => hG.block g h1 (fun e => h2 (Option.some.inj e))
  refine ⟨(hbl x (lt_of_heap h.box) (by omega)).trans h.box, (hbl c (lt_of_heap h.con) (by omega)).trans h.con, (hbl _ (lt_of_heap h.out) (by omega)).trans h.out, hM, grown_below_p h.bel hG (by omega), h.old, h.rws.keep fun g h1 h2 => hbl g h2 (by omega), fun i hi => (h.rul i hi).keep (keepF_mk h.mkr hG) hG.size (fun g h1 h2 _ => hbl g h2 (by omega)) fun _ _ _ q => q⟩
theorem MdI.below {w : World} {p : Nat} {a : Option Addr} {n cap : Nat} {F : Nat → Int} {x c k : Nat} {ex b : Bool} {l : Rs} {A : Nat} {W W' : World} (h : MdI w p a n cap F x c k ex b l A W) (hb : Below W.heap.size W W') : MdI w p a n cap F x c k ex b l A W' :=
  h.pick (h.mkr.below hb) (grown_of_below hb _)
/-- A rule is made. -/
theorem MdI.rule {w : World} {p : Nat} {a : Option Addr} {n cap : Nat} {F : Nat → Int} {x c k : Nat} {ex b : Bool} {l : Rs} {A : Nat} {W W' : World} {e : Ending} (h : MdI w p a n cap F x c k ex b l A W) (hM : MrI W p a n cap F A k e W') :
    ∃ r A', e = .returned (ruleV r) ∧ A' ≤ A + 60 ∧ MdI w p a n cap F x c k ex b l A' W' ∧ RlK W' (max x c + 1) l.val.ownBlock r k := by
  obtain ⟨r, he, hin, hr, hc, hg, A', hA, hMk, hG⟩ := hM
  refine ⟨r, A', he, hA, h.pick hMk hG, hin, hr, hc, fun hp => ?_⟩
  obtain ⟨g, off, e1, h1⟩ := hg hp
  refine ⟨g, off, e1, by have := h.lt; omega, fun e2 => ?_⟩
  rcases h.rws.row with ⟨q, _⟩ | ⟨g', cur, ha, hB, hg', hR⟩
  · rw [show l.val.ownBlock = none by unfold Rs.val; rw [q]; rfl] at e2; cases e2
  · have := lt_of_heap hg'
    rw [show l.val.ownBlock = some g' by unfold Rs.val; rw [ha]; rfl] at e2
    have := Option.some.inj e2
    omega
theorem own_lt {W : World} {B : Nat} {l : Rs} (h : RwI W B l) : ∀ g, l.val.ownBlock = some g → B ≤ g ∧ g < W.heap.size := fun g hg => by
  rcases h.row with ⟨q, _⟩ | ⟨g', cur, ha, hB, hg', hR⟩
  · rw [show l.val.ownBlock = none by unfold Rs.val; rw [q]; rfl] at hg; cases hg
  · rw [show l.val.ownBlock = some g' by unfold Rs.val; rw [ha]; rfl] at hg
    cases hg
    exact ⟨hB, lt_of_heap hg'⟩
/-- It is put behind the others. -/
theorem MdI.app {w : World} {p : Nat} {a : Option Addr} {n cap : Nat} {F : Nat → Int} {x c k : Nat} {ex b : Bool} {l : Rs} {A : Nat} {W W' : World} {r : Rl} {v : Value} (h : MdI w p a n cap F x c k ex b l A W) (hr : RlK W (max x c + 1) l.val.ownBlock r k) (hA : AppI W (max x c + 1) l r v W') :
    (W'.cell? ⟨x, 2, none⟩ = some (.slice l.a l.n l.cap) ∧ W'.frozen? ⟨x, 2, none⟩ = false) ∧ ∃ a' c', v = .slice a' (l.n + 1 : Nat) c' ∧ MdI w p a n cap F x c k ex b ⟨a', l.n + 1, c', putR l.r l.n r⟩ A (W'.setCell ⟨x, 2, none⟩ v) := by
  obtain ⟨o1, o2, o3, o4⟩ := h.old
  obtain ⟨a', c', rfl, hI, hK, hG, hg⟩ := hA
  have hbl : ∀ g, g < W.heap.size → g < max x c + 1 → W'.heap[g]? = W.heap[g]? := fun g h1 h2 => hG.block g h1 (fun e => by have := (own_lt h.rws g e.symm).1; omega)
  have hbox := (hbl x (lt_of_heap h.box) (by omega)).trans h.box
  have hst : ∀ g, g ≠ x → (W'.setCell ⟨x, 2, none⟩ (.slice a' (l.n + 1 : Nat) c')).heap[g]? = W'.heap[g]? := fun g hg => Below.heap_setCell _ _ _ _ hg
  have hK2 : KeepF W' (W'.setCell ⟨x, 2, none⟩ (.slice a' (l.n + 1 : Nat) c')) := keepF_spec hbox fun g _ hne => hst g hne
  have hsz : (W'.setCell ⟨x, 2, none⟩ (.slice a' (l.n + 1 : Nat) c')).heap.size = W'.heap.size := by simp
  refine ⟨⟨(cell_of_row W' x 2 _ _ _ hbox).trans rfl, frozen_of_row _ _ 2 _ _ hbox⟩, a', c', rfl, ?_⟩
  refine ⟨?_, (hst c (by omega)).trans ((hbl c (lt_of_heap h.con) (by omega)).trans h.con), (hst _ (by omega)).trans ((hbl _ (lt_of_heap h.out) (by omega)).trans h.out), ?_, ?_, h.old, hI.keep fun g h1 _ => hst g (by omega), ?_⟩
  · rw [heap_setCell_same W' x 2 _ _ _ hbox]; rfl
  · refine ⟨(hst p (by omega)).trans ((hbl p h.mkr.lt (by omega)).trans h.mkr.box), fun hn => ?_⟩
    obtain ⟨g, off, ha, hgp, hc⟩ := h.mkr.row hn
    refine ⟨g, off, ha, hgp, fun i hi => ?_⟩
    have hgl := lt_of_cell (hc i hi)
    exact (World.cell?_of_block (a := ⟨g, off + i, none⟩) ((hst g (by omega)).trans (hbl g hgl (by omega)))).trans (hc i hi)
  · refine (h.bel.trans ((Below.refl w.heap.size W).grown hG h.bel.size fun k hk => ?_)).setCell (by show w.heap.size ≤ x; omega) _
    have := (own_lt h.rws k hk).1
    omega
  · have hown' : ∀ g, max x c + 1 ≤ g → g < W.heap.size → some g ≠ l.val.ownBlock → some g ≠ (Rs.val ⟨a', l.n + 1, c', putR l.r l.n r⟩).ownBlock := fun g h1 h2 h3 e => by
      rcases hI.row with ⟨q, _⟩ | ⟨g', cur, ha, _, _, _⟩
      · dsimp only at q; subst q; cases e
      · dsimp only at ha
        subst ha
        have e' : g = g' := by
          have : (Rs.val ⟨some ⟨g', 0, none⟩, l.n + 1, c', putR l.r l.n r⟩).ownBlock = some g' := rfl
          rw [this] at e; exact Option.some.inj e
        subst e'
        rcases hg g rfl with q | q
        · exact h3 q.symm
        · omega
    have hall : ∀ r', RlK W (max x c + 1) l.val.ownBlock r' k → RlK (W'.setCell ⟨x, 2, none⟩ (.slice a' (l.n + 1 : Nat) c')) (max x c + 1) (Rs.val ⟨a', l.n + 1, c', putR l.r l.n r⟩).ownBlock r' k := fun r' hr' =>
      hr'.keep (hK.trans hK2) (by rw [hsz]; exact hG.size) (fun g h1 h2 h3 => (hst g (by omega)).trans (hG.block g h2 h3)) hown'
    intro i hi
    dsimp only at hi ⊢
    by_cases e : i = l.n
    · rw [e, putR_same]; exact hall r hr
    · rw [putR_ne _ _ e]; exact hall _ (h.rul i (by omega))
/-- What Made gives back. -/
def SpMade (w : World) (e : Ending) (w' : World) : Prop :=
  ∃ s : Sp, e = .returned (specV s) ∧ SpIn w' s ∧ Sm s.rs ∧ specB s = true ∧ (1 ≤ s.rs.n ∧ s.rs.n ≤ 4) ∧ (∃ c k ex, s.cs = csM c k ex ∧ 1 ≤ k ∧ k ≤ 3) ∧ (∀ i, i < s.rs.n → cnt (s.rs.r i).rx ≤ 100 ∧ cnt (s.rs.r i).tr ≤ 100) ∧ Below w.heap.size w w'
/-- The answer is copied into its box. -/
theorem MdI.fin {w : World} {p : Nat} {a : Option Addr} {n cap : Nat} {F : Nat → Int} {x c k : Nat} {ex b : Bool} {l : Rs} {A : Nat} {W W' : World} (h : MdI w p a n cap F x c k ex b l A W) (hk1 : 1 ≤ k) (hk3 : k ≤ 3) (h1 : 1 ≤ l.n) (h4 : l.n ≤ 4)
    (hs : W'.heap.size = W.heap.size) (hst : ∀ g, g ≠ w.heap.size → W'.heap[g]? = W.heap[g]?) (hB : Below w.heap.size w W') : SpMade w (.returned (specV ⟨csM c k ex, b, l⟩)) W' := by
  obtain ⟨o1, o2, o3, o4⟩ := h.old
  have hK : KeepF W W' := keepF_spec h.out fun g _ hne => hst g hne
  have hrul : ∀ i, i < l.n → RlK W' (max x c + 1) l.val.ownBlock (l.r i) k := fun i hi => (h.rul i hi).keep hK (by omega) (fun g h1 _ _ => hst g (by omega)) fun _ _ _ q => q
  have hrw : RwI W' (max x c + 1) l := h.rws.keep fun g h1 _ => hst g (by omega)
  refine ⟨⟨csM c k ex, b, l⟩, rfl, ⟨csM_in ((hst c (by omega)).trans h.con) (by have := lt_of_heap h.con; omega) hk3, hrw.le, hrw.max, fun _ => ?_, fun i hi => (hrul i hi).1⟩, fun i hi => ?_, ?_, ⟨h1, h4⟩, ⟨c, k, ex, rfl, hk1, hk3⟩, fun i hi => (hrul i hi).2.2.1, hB⟩
  · rcases hrw.row with ⟨_, q, _⟩ | ⟨g, cur, ha, _, hg, hR⟩
    · omega
    · refine ⟨g, 0, ha, lt_of_heap hg, fun i hi => ?_⟩
      have hle := hrw.le
      have key : ∀ j v, j < 22 → (row22 (l.r i))[j]? = some v → W'.cell? ⟨g, 0 + i * 22 + j, none⟩ = some v := fun j v hj hv => by
        rw [cell_of_row W' g _ _ _ _ hg, Nat.zero_add, hR.2 i j (by dsimp only at hi; omega) hj, hv]
      exact ⟨key 0 _ (by omega) rfl, key 1 _ (by omega) rfl, key 2 _ (by omega) rfl, key 3 _ (by omega) rfl, key 4 _ (by omega) rfl, key 5 _ (by omega) rfl, key 6 _ (by omega) rfl, key 7 _ (by omega) rfl, key 8 _ (by omega) rfl, key 9 _ (by omega) rfl, key 10 _ (by omega) rfl, key 11 _ (by omega) rfl, key 12 _ (by omega) rfl, key 13 _ (by omega) rfl, key 14 _ (by omega) rfl, key 15 _ (by omega) rfl, key 16 _ (by omega) rfl, key 17 _ (by omega) rfl, key 18 _ (by omega) rfl, key 19 _ (by omega) rfl, key 20 _ (by omega) rfl, key 21 _ (by omega) rfl⟩
  · have q := (hrul i hi).2.2.1; exact ⟨Nat.le_trans q.1 (by omega), Nat.le_trans q.2 (by omega)⟩
  · unfold specB rulesB
    rw [csM_right c k ex hk1 hk3, decide_eq_true (show l.n ≤ 40 by omega), Bool.true_and, Bool.true_and]
    exact allTo_iff.2 fun i hi => (hrul i hi).2.1
end Go.Proofs.YtnfchlkdppblfaaGreatDoor
