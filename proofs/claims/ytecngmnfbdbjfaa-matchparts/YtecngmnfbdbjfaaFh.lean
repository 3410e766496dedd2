/- MatchParts' boxes of a Cat and an Alt that are filled by appends. -/
import Derived.Test.YtecngmnfbdbjfaaMd
import Derived.Maps.AppendAt
namespace Go.Proofs.Ytecngmnfbdbjfaa
open Go.RowKit Go
/-- An append in a region that draws its order: where the new row lies. -/
theorem step_append_own_at {w : World} {ops : Array Oper} {o : Oper} {a : Act} {K : Act → World → Prop} {Q : Exit → Act → World → Prop} {X : Prop} (hgd : o.guard = none) (s x : Operand) (t : TypeId)
    (ho : o.op = .call { callee := .builtin .append, args := #[s, x], argTypes := #[t, t] })
    (base : Nat) (e : TypeId) (i : TypeInfo) (z : Value) (size bytes : Nat) (ht : Try.prog.underlying t = some (.slice e)) (hi : Try.prog.info? e = some i) (hz : i.zero = some z)
    (hsize : i.size = size) (hby : i.bytes = bytes) (hzs : z.cells.size = size) (hsz : 0 < size)
    (v : Value) (n : Nat) (xs : List Value) (hs : a.eval s = v) (hown : w.ownsRow base e size v n xs)
    (ad : Addr) (m c : Nat) (news : List Value) (hx : a.eval x = .slice (some ad) m c) (hl : news.length = m * size) (hnews : ∀ j u, news[j]? = some u → w.cell? (ad.add j) = some u) (h1 : ∀ u ∈ news, u.oneCell' = true)
    (h63 : n + m ≤ maxLen) (hbytes : (n + m) * bytes ≤ 140737488355328) (hbase : base ≤ w.heap.size)
    (h : ∀ v' w', w'.ownsRow base e size v' (n + m) (xs ++ news) → w.grownBy w' v.ownBlock → (v'.ownBlock = v.ownBlock ∨ v'.ownBlock = some w.heap.size) → K (a.put o.dst v') w') :
    if Region.wanted o (yielded ops a.tmps) = true then Oper.wp Try.prog o a w K Q else X := by
  have hw : Region.wanted o (yielded ops a.tmps) = true := by simp [Region.wanted, hgd]
  rw [if_pos hw]
  obtain ⟨v', w', hr, h2, h3, _, h5⟩ := run_append_own_at (P := Try.prog) w base t o.type e i z size bytes ht hi hz hsize hby hzs hsz v n xs hown ad m c news hl hnews h1 h63 hbytes hbase
  unfold Oper.wp execOp
  simp only [ho, resolve, invoke, builtin, Sem.run_bind, Sem.run_pure, Result.andThen_ok, List.map_toArray, List.map_cons, List.map_nil, hs, hx, hr]
  exact h v' w' h2 h3 h5
/-- The two patterns, by number. -/
def both2 (X Y : Tr) (i : Nat) : Tr := if i = 0 then X else Y
theorem join_both (kind : Int) (X Y : Tr) : joinTo kind (both2 X Y) 2 = partL kind X ++ partL kind Y := by
  show ([] ++ partL kind X) ++ partL kind Y = _
  rw [List.nil_append]
theorem at8_same {w w1 : World} {g o : Nat} {t : Tr} (h : At8 w g o t) (e : w1.heap[g]? = w.heap[g]?) : At8 w1 g o t := by
  have key : ∀ c, w1.cell? ⟨g, c, none⟩ = w.cell? ⟨g, c, none⟩ := fun c => by unfold World.cell?; rw [show ((⟨g, c, none⟩ : Addr).block) = g from rfl, e]
  unfold At8 at h ⊢
  simp only [key]
  exact h
/-- Behind c patterns of the Cat and a of the Alt: the Cat's box at B, the Alt's at B + 1, the row of both patterns at B + 2. -/
structure KI (V R : World) (B : Nat) (tt : Nat → Tr) (c a : Nat) (vc va : Value) (wz : World) : Prop where
  bc : wz.heap[B]? = some (.cells (row8 3 z0 0 0 vc) 30 (0, 0))
  ba : wz.heap[B + 1]? = some (.cells (row8 4 z0 0 0 va) 30 (0, 0))
  br : wz.heap[B + 2]? = R.heap[B + 2]?
  oc : wz.ownsRow (B + 3) 30 8 vc (joinTo 3 tt c).length (flatT (joinTo 3 tt c))
  oa : wz.ownsRow (B + 3) 30 8 va (joinTo 4 tt a).length (flatT (joinTo 4 tt a))
  ne : ∀ g, vc.ownBlock = some g → va.ownBlock ≠ some g
  size : B + 3 ≤ wz.heap.size
  bel : Below V.heap.size V wz
  low : V.heap.size ≤ B
theorem KI.alloc {V R : World} {B : Nat} {tt : Nat → Tr} {c a : Nat} {vc va : Value} {wz : World} (h : KI V R B tt c a vc va wz) (o : Obj) : KI V R B tt c a vc va (wz.alloc o) where
  bc := (Below.heap_alloc wz o _ (by have := h.size; omega)).trans h.bc
  ba := (Below.heap_alloc wz o _ (by have := h.size; omega)).trans h.ba
  br := (Below.heap_alloc wz o _ (by have := h.size; omega)).trans h.br
  oc := h.oc.alloc o
  oa := h.oa.alloc o
  ne := h.ne
  size := by have := h.size; simp; omega
  bel := h.bel.trans ((alloc_below wz o).mono h.bel.size)
  low := h.low
theorem KI.cat {V R : World} {B : Nat} {tt : Nat → Tr} {c a : Nat} {vc va v1 : Value} {wz w1 : World} (h : KI V R B tt c a vc va wz) (hg : wz.grownBy w1 vc.ownBlock) (hat : v1.ownBlock = vc.ownBlock ∨ v1.ownBlock = some wz.heap.size) (hown : w1.ownsRow (B + 3) 30 8 v1 (joinTo 3 tt (c + 1)).length (flatT (joinTo 3 tt (c + 1)))) :
    KI V R B tt (c + 1) a v1 va (w1.setCell ⟨B, 7, none⟩ v1) := by
  have hne : ∀ k, k < B + 3 → some k ≠ vc.ownBlock := fun k hk e => by have := (h.oc.lt _ e.symm).1; omega
  have hb1 : Below V.heap.size V w1 := h.bel.trans ((grown_below h.oc h.size hg).mono (by have := h.low; omega))
  have hs := h.size
  have hbc := (hg.block B (by omega) (hne _ (by omega))).trans h.bc
  have hset := heap_setCell_same _ _ 7 _ _ v1 hbc
  refine ⟨?_, ?_, ?_, own_setCell hown (by omega), own_setCell (h.oa.kept hg ?_) (by omega), ?_, ?_, hb1.setCell (show V.heap.size ≤ B from h.low) _, h.low⟩
  · rw [hset]; simp
  · rw [Below.heap_setCell _ _ _ _ (by show B + 1 ≠ B; omega)]
    exact (hg.block _ (by omega) (hne _ (by omega))).trans h.ba
  · rw [Below.heap_setCell _ _ _ _ (by show B + 2 ≠ B; omega)]
    exact (hg.block _ (by omega) (hne _ (by omega))).trans h.br
  · cases hv : va.ownBlock with
    | none => exact Or.inl rfl
    | some g => exact Or.inr fun e => h.ne g e.symm hv
  · intro g hv e
    rcases hat with q | q
    · exact h.ne g (q ▸ hv) e
    · rw [q] at hv; cases hv; have := (h.oa.lt _ e).2; omega
  · have := hg.size; simp; omega
theorem KI.altN {V R : World} {B : Nat} {tt : Nat → Tr} {c a : Nat} {vc va v1 : Value} {wz w1 : World} (h : KI V R B tt c a vc va wz) (hg : wz.grownBy w1 va.ownBlock) (hat : v1.ownBlock = va.ownBlock ∨ v1.ownBlock = some wz.heap.size) (hown : w1.ownsRow (B + 3) 30 8 v1 (joinTo 4 tt (a + 1)).length (flatT (joinTo 4 tt (a + 1)))) :
    KI V R B tt c (a + 1) vc v1 (w1.setCell ⟨B + 1, 7, none⟩ v1) := by
  have hne : ∀ k, k < B + 3 → some k ≠ va.ownBlock := fun k hk e => by have := (h.oa.lt _ e.symm).1; omega
  have hb1 : Below V.heap.size V w1 := h.bel.trans ((grown_below h.oa h.size hg).mono (by have := h.low; omega))
  have hs := h.size
  have hba := (hg.block (B + 1) (by omega) (hne _ (by omega))).trans h.ba
  have hset := heap_setCell_same _ _ 7 _ _ v1 hba
  refine ⟨?_, ?_, ?_, own_setCell (h.oc.kept hg ?_) (by omega), own_setCell hown (by omega), ?_, ?_, hb1.setCell (show V.heap.size ≤ B + 1 by have := h.low; omega) _, h.low⟩
  · rw [Below.heap_setCell _ _ _ _ (by show B ≠ B + 1; omega)]
    exact (hg.block _ (by omega) (hne _ (by omega))).trans h.bc
  · rw [hset]; simp
  · rw [Below.heap_setCell _ _ _ _ (by show B + 2 ≠ B + 1; omega)]
    exact (hg.block _ (by omega) (hne _ (by omega))).trans h.br
  · cases hv : vc.ownBlock with
    | none => exact Or.inl rfl
    | some g => exact Or.inr fun e => h.ne g hv e.symm
  · intro g hv e
    rcases hat with q | q
    · exact h.ne g hv (q ▸ e)
    · rw [q] at e; cases e; have := (h.oc.lt _ hv).2; omega
  · have := hg.size; simp; omega
theorem KI.look {V R : World} {B : Nat} {tt : Nat → Tr} {c a : Nat} {vc va : Value} {wz : World} (h : KI V R B tt c a vc va wz) :
    wz.cell? ⟨B, 7, none⟩ = some vc ∧ wz.frozen? ⟨B, 7, none⟩ = false ∧ wz.cell? ⟨B + 1, 7, none⟩ = some va ∧ wz.frozen? ⟨B + 1, 7, none⟩ = false :=
  ⟨cell_of_row wz B 7 _ _ _ h.bc, frozen_of_row _ _ 7 _ _ h.bc, cell_of_row wz (B + 1) 7 _ _ _ h.ba, frozen_of_row _ _ 7 _ _ h.ba⟩
/-- Behind an append to a row of the call's own: both boxes, and a pattern's box. -/
theorem KI.grown {V R : World} {B : Nat} {tt : Nat → Tr} {c a : Nat} {vc va v : Value} {wz w1 : World} (h : KI V R B tt c a vc va wz) (hv : v = vc ∨ v = va) (hg : wz.grownBy w1 v.ownBlock) :
    w1.cell? ⟨B, 7, none⟩ = some vc ∧ w1.frozen? ⟨B, 7, none⟩ = false ∧ w1.cell? ⟨B + 1, 7, none⟩ = some va ∧ w1.frozen? ⟨B + 1, 7, none⟩ = false := by
  have hs := h.size
  have hne : ∀ k, k < B + 3 → some k ≠ v.ownBlock := fun k hk e => by
    rcases hv with rfl | rfl
    · have := (h.oc.lt _ e.symm).1; omega
    · have := (h.oa.lt _ e.symm).1; omega
  have h1 := (hg.block B (by omega) (hne _ (by omega))).trans h.bc
  have h2 := (hg.block (B + 1) (by omega) (hne _ (by omega))).trans h.ba
  exact ⟨cell_of_row w1 B 7 _ _ _ h1, frozen_of_row _ _ 7 _ _ h1, cell_of_row w1 (B + 1) 7 _ _ _ h2, frozen_of_row _ _ 7 _ _ h2⟩
theorem joinTo_len {kind : Int} {tt : Nat → Tr} {m : Nat} : ∀ c, (∀ i, i < c → (tt i).n ≤ m) → (joinTo kind tt c).length ≤ c * (m + 1)
  | 0, _ => by simp [joinTo]
  | c + 1, h => by
    have := joinTo_len (kind := kind) (m := m) c fun i hi => h i (by omega)
    have := partL_len kind (tt c)
    have := h c (by omega)
    rw [joinTo, List.length_append, Nat.add_mul]; omega
theorem both2_at {R : World} {g : Nat} {X Y : Tr} (h : R.heap[g]? = some (.cells (row8 X.k X.s X.lo X.hi (.slice X.a X.n X.cap) ++ row8 Y.k Y.s Y.lo Y.hi (.slice Y.a Y.n Y.cap)) 30 (0, 0))) : ∀ i, i < 2 → At8 R g (i * 8) (both2 X Y i) := by
  intro i hi
  match i, hi with
  | 0, _ => exact ⟨cell_of_row R g 0 _ _ _ h, cell_of_row R g 1 _ _ _ h, cell_of_row R g 2 _ _ _ h, cell_of_row R g 3 _ _ _ h, cell_of_row R g 4 _ _ _ h, cell_of_row R g 5 _ _ _ h, cell_of_row R g 6 _ _ _ h, cell_of_row R g 7 _ _ _ h⟩
  | 1, _ => exact ⟨cell_of_row R g 8 _ _ _ h, cell_of_row R g 9 _ _ _ h, cell_of_row R g 10 _ _ _ h, cell_of_row R g 11 _ _ _ h, cell_of_row R g 12 _ _ _ h, cell_of_row R g 13 _ _ _ h, cell_of_row R g 14 _ _ _ h, cell_of_row R g 15 _ _ _ h⟩
theorem KI.start {V w : World} (hb : Below V.heap.size V w) (X Y : Tr) (tt : Nat → Tr) (o : Obj) : KI V (((w.alloc (.cells (row8 3 z0 0 0 (.slice none 0 0)) 30)).alloc (.cells (row8 4 z0 0 0 (.slice none 0 0)) 30)).alloc o) w.heap.size tt 0 0 (.slice none 0 0) (.slice none 0 0) (((w.alloc (.cells (row8 3 z0 0 0 (.slice none 0 0)) 30)).alloc (.cells (row8 4 z0 0 0 (.slice none 0 0)) 30)).alloc o) where
  bc := (Below.heap_alloc _ _ _ (by simp; omega)).trans ((Below.heap_alloc _ _ _ (by simp)).trans (heap_alloc_new _ _))
  ba := (Below.heap_alloc _ _ _ (by simp)).trans (by have := heap_alloc_new (w.alloc (.cells (row8 3 z0 0 0 (.slice none 0 0)) 30)) (.cells (row8 4 z0 0 0 (.slice none 0 0)) 30); simpa using this)
  br := rfl
  oc := World.ownsRow_nil _ _ _ _
  oa := World.ownsRow_nil _ _ _ _
  ne := fun g h => by cases h
  size := by simp
  bel := hb.trans ((((alloc_below w _).alloc (by simp) _).alloc (by simp; omega) _).mono hb.size)
  low := hb.size
theorem kbox {w w1 : World} {k : Int} {s : Nat → Int} {lo hi : Int} {v7 v : Value} {base n : Nat} {xs : List Value} (o : w.ownsRow base 30 8 v n xs) (hg : (w.alloc (.cells (row8 k s lo hi v7) 30)).grownBy w1 v.ownBlock) : w1.heap[w.heap.size]? = some (.cells (row8 k s lo hi v7) 30 (0, 0)) :=
  (hg.block _ (by simp) fun e => by have := (o.lt _ e.symm).2; omega).trans (heap_alloc_new _ _)
theorem kbox2 {w w1 : World} {k : Int} {s : Nat → Int} {lo hi : Int} {v7 v : Value} {base n : Nat} {xs : List Value} {o' : Obj} (o : w.ownsRow base 30 8 v n xs) (hg : ((w.alloc (.cells (row8 k s lo hi v7) 30)).alloc o').grownBy w1 v.ownBlock) : w1.heap[w.heap.size]? = some (.cells (row8 k s lo hi v7) 30 (0, 0)) :=
  (hg.block _ (by simp; omega) fun e => by have := (o.lt _ e.symm).2; omega).trans ((Below.heap_alloc _ _ _ (by simp)).trans (heap_alloc_new _ _))
end Go.Proofs.Ytecngmnfbdbjfaa
