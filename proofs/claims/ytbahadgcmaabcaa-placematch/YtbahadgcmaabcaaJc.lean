/- Lists of places in memory; what a builder keeps; what a step of it leaves alone. -/
import Derived.Test.YtbahadgcmaabcaaJa
import Derived.Test.YtbahadgcmaabcaaX
import Derived.Maps.AppendAt
import Derived.OwnWalk
import Derived.BigQuiet
import Derived.Deep.QuietTactic
import Derived.Deep.RegionLaw
import Derived.Deep.LoopGhost
import Derived.IntWalk
namespace Go.Proofs.Ytbahadgcmaabcaa
open Go.RowKit Go
/-- The value reads as a list of numbers; they stand in a block of numbers. -/
def IL (w : World) (v : Value) (l : List Int) : Prop :=
  ∃ a cap, v = .slice a l.length cap ∧ l.length ≤ cap ∧ cap ≤ maxLen ∧ (a = none → cap = 0) ∧ (0 < l.length → ∃ g off cs f, a = some ⟨g, off, none⟩ ∧ w.heap[g]? = some (.cells cs 3 f) ∧ ∀ i, i < l.length → w.cell? ⟨g, off + i, none⟩ = some (.int .i64 (l.getD i 0)))
theorem lt_heap {w : World} {g : Nat} {o : Obj} (h : w.heap[g]? = some o) : g < w.heap.size := (Array.getElem?_eq_some_iff.1 h).1
theorem IL.below {w w' : World} {v : Value} {l : List Int} (h : IL w v l) (hb : Below w.heap.size w w') : IL w' v l := by
  obtain ⟨a, cap, hv, h1, h2, h0, h3⟩ := h
  refine ⟨a, cap, hv, h1, h2, h0, fun hp => ?_⟩
  obtain ⟨g, off, cs, f, ha, hg, hc⟩ := h3 hp
  exact ⟨g, off, cs, f, ha, (hb.block _ (lt_heap hg)).trans hg, fun i hi => (hb.cell (p := ⟨g, _, none⟩) (lt_heap hg)).trans (hc i hi)⟩
theorem il_nil (w : World) : IL w (.slice none 0 0) [] := ⟨none, 0, rfl, Nat.le_refl _, by unfold maxLen; omega, fun _ => rfl, fun h => absurd h (by simp)⟩
/-- A row of numbers that a call has made is a list. -/
theorem il_row {w : World} {base : Nat} {v : Value} {l : List Int} (h : w.ownsRow base 3 1 v l.length (l.map (Value.int .i64))) : IL w v l := by
  have h' := h
  obtain ⟨_, ⟨rfl, h0⟩ | ⟨g, cap, cur, rfl, hg, hh, h1, h2, h3, h4⟩⟩ := h
  · have : l = [] := List.eq_nil_of_length_eq_zero h0
    subst this; exact il_nil w
  · refine ⟨_, cap, rfl, h1, h2, (fun h => by cases h), fun _ => ⟨g, 0, cur, _, rfl, hh, fun i hi => ?_⟩⟩
    have := h'.cells (g := g) rfl i (.int .i64 (l.getD i 0)) (by rw [List.getElem?_map, List.getD_eq_getElem?_getD, List.getElem?_eq_getElem hi]; rfl)
    rw [Addr.add_lit] at this
    exact this
/-- Is the block one of a builder's: its box, its row of sets, its row of lists? -/
def isB (o : Option Obj) : Prop := ∃ cs f, o = some (.cells cs 56 f) ∨ o = some (.cells cs 24 f) ∨ o = some (.cells cs 37 f)
theorem not_isB {w : World} {g : Nat} {cs : Array Value} {e : TypeId} {f : Nat × Nat} (h : w.heap[g]? = some (.cells cs e f)) (h1 : e ≠ 56) (h2 : e ≠ 24) (h3 : e ≠ 37) : ¬ isB w.heap[g]? := by
  rintro ⟨cs', f', h' | h' | h'⟩ <;> rw [h] at h' <;> injection h' with h' <;> injection h' with _ h' _
  · exact h1 h'
  · exact h2 h'
  · exact h3 h'
/-- Between two worlds nothing has turned but a builder's blocks from B on. -/
structure KT (B : Nat) (w w' : World) : Prop where
  os : w'.os = w.os
  tape : w'.tape = w.tape
  output : w'.output = w.output
  size : w.heap.size ≤ w'.heap.size
  block : ∀ k, k < w.heap.size → (k < B ∨ ¬ isB w.heap[k]?) → w'.heap[k]? = w.heap[k]?
theorem KT.refl (B : Nat) (w : World) : KT B w w := ⟨rfl, rfl, rfl, Nat.le_refl _, fun _ _ _ => rfl⟩
theorem KT.trans {B : Nat} {a b c : World} (h : KT B a b) (k : KT B b c) : KT B a c :=
  ⟨k.os.trans h.os, k.tape.trans h.tape, k.output.trans h.output, Nat.le_trans h.size k.size, fun i hi hc => by
    have e := h.block i hi hc
    rw [← e]
    exact k.block i (Nat.lt_of_lt_of_le hi h.size) (by rw [e]; exact hc)⟩
theorem KT.of {B : Nat} {w w' : World} (h : Below w.heap.size w w') : KT B w w' := ⟨h.os, h.tape, h.output, h.size, fun k hk _ => h.block k hk⟩
theorem KT.below {B : Nat} {w w' : World} (h : KT B w w') (hB : B ≤ w.heap.size) : Below B w w' := ⟨h.os, h.tape, h.output, h.size, fun k hk => h.block k (by omega) (Or.inl hk)⟩
theorem KT.heap {B : Nat} {w w' : World} (h : KT B w w') {g : Nat} {cs : Array Value} {e : TypeId} {f : Nat × Nat} (hg : w.heap[g]? = some (.cells cs e f)) (h1 : e ≠ 56) (h2 : e ≠ 24) (h3 : e ≠ 37) : w'.heap[g]? = some (.cells cs e f) :=
  (h.block g (lt_heap hg) (Or.inr (not_isB hg h1 h2 h3))).trans hg
theorem KT.grown {B : Nat} {w w' : World} {row : Option Nat} (h : w.grownBy w' row) (hr : ∀ k, row = some k → B ≤ k ∧ isB w.heap[k]?) : KT B w w' :=
  ⟨h.os, h.tape, h.output, h.size, fun k hk hc => h.block k hk fun e => by
    obtain ⟨h1, h2⟩ := hr k e.symm
    rcases hc with h3 | h3
    · omega
    · exact h3 h2⟩
theorem KT.set {B : Nat} (w : World) {g : Nat} (c : Nat) (u : Value) (hB : B ≤ g) (hb : isB w.heap[g]?) : KT B w (w.setCell ⟨g, c, none⟩ u) :=
  ⟨rfl, rfl, rfl, by simp [World.setCell], fun k _ hc => Below.heap_setCell _ _ _ _ fun e => by
    have e' : k = g := e
    rw [e'] at hc
    rcases hc with h3 | h3
    · omega
    · exact h3 hb⟩
theorem IL.kt {B : Nat} {w w' : World} {v : Value} {l : List Int} (h : IL w v l) (hb : KT B w w') : IL w' v l := by
  obtain ⟨a, cap, hv, h1, h2, h0, h3⟩ := h
  refine ⟨a, cap, hv, h1, h2, h0, fun hp => ?_⟩
  obtain ⟨g, off, cs, f, ha, hg, hc⟩ := h3 hp
  have hk := hb.heap hg (by decide) (by decide) (by decide)
  exact ⟨g, off, cs, f, ha, hk, fun i hi => (World.cell?_of_block (a := ⟨g, off + i, none⟩) (hk.trans hg.symm)).trans (hc i hi)⟩
/-- The words of some sets, in a row. -/
def flatW (s : Nat → Nat → Int) : Nat → List Value
  | 0 => []
  | n + 1 => flatW s n ++ [.int .u64 (s n 0), .int .u64 (s n 1), .int .u64 (s n 2), .int .u64 (s n 3)]
theorem flatW_len (s : Nat → Nat → Int) : ∀ n, (flatW s n).length = n * 4
  | 0 => rfl
  | n + 1 => by simp [flatW, flatW_len s n]; omega
theorem flatW_get (s : Nat → Nat → Int) : ∀ (n i k : Nat), i < n → k < 4 → (flatW s n)[i * 4 + k]? = some (.int .u64 (s i k))
  | n + 1, i, k, hi, hk => by
    by_cases e : i = n
    · subst e
      rw [flatW, List.getElem?_append_right (by rw [flatW_len]; omega), flatW_len, show i * 4 + k - i * 4 = k by omega]
      match k, hk with
      | 0, _ => rfl
      | 1, _ => rfl
      | 2, _ => rfl
      | 3, _ => rfl
    · rw [flatW, List.getElem?_append_left (by rw [flatW_len]; omega)]
      exact flatW_get s n i k (by omega) hk
theorem flatW_congr {s t : Nat → Nat → Int} : ∀ {n : Nat}, (∀ i, i < n → s i = t i) → flatW s n = flatW t n
  | 0, _ => rfl
  | n + 1, h => by rw [flatW, flatW, flatW_congr (n := n) fun i hi => h i (by omega), h n (by omega)]
/-- Values in a row. -/
def rowV (vs : Nat → Value) (n : Nat) : List Value := (List.range n).map vs
theorem rowV_len (vs : Nat → Value) (n : Nat) : (rowV vs n).length = n := by simp [rowV]
theorem rowV_get (vs : Nat → Value) {n i : Nat} (h : i < n) : (rowV vs n)[i]? = some (vs i) := by simp [rowV, h]
theorem rowV_congr {vs us : Nat → Value} {n : Nat} (h : ∀ i, i < n → vs i = us i) : rowV vs n = rowV us n := List.map_congr_left fun i hi => h i (List.mem_range.1 hi)
theorem rowV_snoc (vs : Nat → Value) (n : Nat) (u : Value) : rowV vs n ++ [u] = rowV (fun i => if i = n then u else vs i) (n + 1) := by
  unfold rowV
  rw [List.range_succ, List.map_append]
  congr 1
  · exact List.map_congr_left fun i hi => by have := List.mem_range.1 hi; rw [if_neg (by omega)]
  · simp
theorem rowV_set (vs : Nat → Value) (n j : Nat) (u : Value) : (rowV vs n).set j u = rowV (fun i => if i = j then u else vs i) n := by
  apply List.ext_getElem?
  intro i
  rw [List.getElem?_set]
  by_cases hi : i < n
  · rw [rowV_get _ hi, rowV_get _ hi, rowV_len]
    by_cases e : j = i
    · subst e; rw [if_pos rfl, if_pos hi, if_pos rfl]
    · rw [if_neg e, if_neg fun h => e h.symm]
  · rw [List.getElem?_eq_none (by rw [rowV_len]; omega), List.getElem?_eq_none (by rw [rowV_len]; omega), rowV_len]
    split
    · rw [if_neg (by omega)]
    · rfl
theorem own_type {w : World} {base e size n : Nat} {v : Value} {xs : List Value} (h : w.ownsRow base e size v n xs) : ∀ k, v.ownBlock = some k → base ≤ k ∧ ∃ cs, w.heap[k]? = some (.cells cs e (0, 0)) := fun k hk => by
  obtain ⟨_, ⟨rfl, _⟩ | ⟨g, cap, cur, rfl, hg, hh, _⟩⟩ := h
  · cases hk
  · cases hk; exact ⟨hg, cur, hh⟩
/-- A builder's box at p, its row of sets, its row of lists. -/
structure BlX (B : Nat) (w : World) (p : Nat) (sv fv : Value) (m : Nat) (set : Nat → Nat → Int) (n : Nat) (vs : Nat → Value) (F : Nat → List Int) : Prop where
  box : w.heap[p]? = some (.cells #[sv, fv] 56 (0, 0))
  low : B ≤ p
  sets : w.ownsRow B 24 4 sv m (flatW set m)
  rows : w.ownsRow B 37 1 fv n (rowV vs n)
  lists : ∀ i, i < n → IL w (vs i) (F i)
theorem BlX.below {B : Nat} {w w' : World} {p : Nat} {sv fv : Value} {m : Nat} {set : Nat → Nat → Int} {n : Nat} {vs : Nat → Value} {F : Nat → List Int} (h : BlX B w p sv fv m set n vs F) (hb : Below w.heap.size w w') : BlX B w' p sv fv m set n vs F :=
  ⟨(hb.block _ (lt_heap h.box)).trans h.box, h.low, ownsRow_below h.sets hb, ownsRow_below h.rows hb, fun i hi => (h.lists i hi).below hb⟩
theorem BlX.drew {B : Nat} {w : World} {p : Nat} {sv fv : Value} {m : Nat} {set : Nat → Nat → Int} {n : Nat} {vs : Nat → Value} {F : Nat → List Int} (h : BlX B w p sv fv m set n vs F) : BlX B w.drew p sv fv m set n vs F := ⟨h.box, h.low, h.sets, h.rows, h.lists⟩
theorem BlX.cells {B : Nat} {w : World} {p : Nat} {sv fv : Value} {m : Nat} {set : Nat → Nat → Int} {n : Nat} {vs : Nat → Value} {F : Nat → List Int} (h : BlX B w p sv fv m set n vs F) : w.cell? ⟨p, 0, none⟩ = some sv ∧ w.cell? ⟨p, 1, none⟩ = some fv ∧ w.frozen? ⟨p, 0, none⟩ = false ∧ w.frozen? ⟨p, 1, none⟩ = false :=
  ⟨cell_of_row w p 0 _ _ _ h.box, cell_of_row w p 1 _ _ _ h.box, frozen_of_row _ _ 0 _ _ h.box, frozen_of_row _ _ 1 _ _ h.box⟩
theorem row_other {w w' : World} {base e size n : Nat} {v : Value} {xs : List Value} {row : Option Nat} (h : w.ownsRow base e size v n xs) (hg : w.grownBy w' row) (hne : ∀ k, row = some k → ∃ cs e', w.heap[k]? = some (.cells cs e' (0, 0)) ∧ e' ≠ e) : w'.ownsRow base e size v n xs := by
  refine h.kept hg ?_
  cases hv : v.ownBlock with
  | none => exact Or.inl rfl
  | some k =>
    refine Or.inr fun hk => ?_
    obtain ⟨_, cs, h1⟩ := own_type h k hv
    obtain ⟨cs', e', h2, h3⟩ := hne k hk.symm
    rw [h1] at h2
    injection h2 with h2
    injection h2 with _ h2 _
    exact h3 h2.symm
theorem il_other {w w' : World} {v : Value} {l : List Int} {row : Option Nat} (h : IL w v l) (hg : w.grownBy w' row) (hne : ∀ k, row = some k → ∃ cs e', w.heap[k]? = some (.cells cs e' (0, 0)) ∧ e' ≠ 3) : IL w' v l := by
  obtain ⟨a, cap, hv, h1, h2, h0, h3⟩ := h
  refine ⟨a, cap, hv, h1, h2, h0, fun hp => ?_⟩
  obtain ⟨g, off, cs, f, ha, hg', hc⟩ := h3 hp
  have hk : w'.heap[g]? = w.heap[g]? := hg.block g (lt_heap hg') fun e => by
    obtain ⟨cs', e', h2, h3⟩ := hne g e.symm
    rw [hg'] at h2
    injection h2 with h2
    injection h2 with _ h2 _
    exact h3 h2.symm
  exact ⟨g, off, cs, f, ha, hk.trans hg', fun i hi => (World.cell?_of_block (a := ⟨g, off + i, none⟩) hk).trans (hc i hi)⟩
theorem box_set0 {w : World} {p e : Nat} {a b : Value} (u : Value) (h : w.heap[p]? = some (.cells #[a, b] e (0, 0))) : (w.setCell ⟨p, 0, none⟩ u).heap[p]? = some (.cells #[u, b] e (0, 0)) := by
  rw [heap_setCell_same _ _ 0 _ _ u h]; simp
theorem box_set1 {w : World} {p e : Nat} {a b : Value} (u : Value) (h : w.heap[p]? = some (.cells #[a, b] e (0, 0))) : (w.setCell ⟨p, 1, none⟩ u).heap[p]? = some (.cells #[a, u] e (0, 0)) := by
  rw [heap_setCell_same _ _ 1 _ _ u h]; simp
theorem grown_set (w : World) (q c : Nat) (v : Value) : w.grownBy (w.setCell ⟨q, c, none⟩ v) (some q) := ⟨rfl, rfl, rfl, by simp [World.setCell], fun k _ hk => Below.heap_setCell _ _ _ _ fun e => hk (by rw [e])⟩
section
variable {B : Nat} {w w1 : World} {p : Nat} {sv fv sv' fv' : Value} {m : Nat} {set : Nat → Nat → Int} {n : Nat} {vs : Nat → Value} {F : Nat → List Int}
/-- One set more. -/
theorem BlX.addSet (h : BlX B w p sv fv m set n vs F) (s : Nat → Int) (hown : w1.ownsRow B 24 4 sv' (m + 1) (flatW set m ++ [.int .u64 (s 0), .int .u64 (s 1), .int .u64 (s 2), .int .u64 (s 3)])) (hg : w.grownBy w1 sv.ownBlock) :
    BlX B (w1.setCell ⟨p, 0, none⟩ sv') p sv' fv (m + 1) (fun i => if i < m then set i else s) n vs F ∧ KT B w (w1.setCell ⟨p, 0, none⟩ sv') := by
  have hne : ∀ k, sv.ownBlock = some k → ∃ cs e', w.heap[k]? = some (.cells cs e' (0, 0)) ∧ e' = 24 := fun k hk => by obtain ⟨_, cs, h1⟩ := own_type h.sets k hk; exact ⟨cs, _, h1, rfl⟩
  have hbx : w1.heap[p]? = some (.cells #[sv, fv] 56 (0, 0)) := (hg.block p (lt_heap h.box) fun e => by
    obtain ⟨cs, e', h1, h2⟩ := hne p e.symm
    rw [h.box] at h1
    injection h1 with h1
    injection h1 with _ h1 _
    rw [h2] at h1
    exact absurd h1 (by decide)).trans h.box
  have hs := grown_set w1 p 0 sv'
  have hp : ∀ k, some p = some k → ∃ cs e', w1.heap[k]? = some (.cells cs e' (0, 0)) ∧ e' = 56 := fun k hk => by cases hk; exact ⟨_, _, hbx, rfl⟩
  refine ⟨⟨box_set0 _ hbx, h.low, ?_, ?_, fun i hi => ?_⟩, ?_⟩
  · have := row_other hown hs fun k hk => by obtain ⟨cs, e', h1, h2⟩ := hp k hk; exact ⟨cs, e', h1, by rw [h2]; decide⟩
    rw [flatW, flatW_congr (t := set) fun i hi => if_pos hi]
    simpa using this
  · exact row_other (row_other h.rows hg fun k hk => by obtain ⟨cs, e', h1, h2⟩ := hne k hk; exact ⟨cs, e', h1, by rw [h2]; decide⟩) hs fun k hk => by obtain ⟨cs, e', h1, h2⟩ := hp k hk; exact ⟨cs, e', h1, by rw [h2]; decide⟩
  · exact il_other (il_other (h.lists i hi) hg fun k hk => by obtain ⟨cs, e', h1, h2⟩ := hne k hk; exact ⟨cs, e', h1, by rw [h2]; decide⟩) hs fun k hk => by obtain ⟨cs, e', h1, h2⟩ := hp k hk; exact ⟨cs, e', h1, by rw [h2]; decide⟩
  · exact (KT.grown hg fun k hk => by obtain ⟨h0, cs, h1⟩ := own_type h.sets k hk; exact ⟨h0, cs, _, Or.inr (Or.inl h1)⟩).trans (KT.set w1 0 sv' h.low ⟨_, _, Or.inl hbx⟩)
/-- One list more. -/
theorem BlX.addRow (h : BlX B w p sv fv m set n vs F) (u : Value) (l : List Int) (hu : IL w u l) (hown : w1.ownsRow B 37 1 fv' (n + 1) (rowV vs n ++ [u])) (hg : w.grownBy w1 fv.ownBlock) :
    BlX B (w1.setCell ⟨p, 1, none⟩ fv') p sv fv' m set (n + 1) (fun i => if i = n then u else vs i) (fun i => if i = n then l else F i) ∧ KT B w (w1.setCell ⟨p, 1, none⟩ fv') := by
  have hne : ∀ k, fv.ownBlock = some k → ∃ cs e', w.heap[k]? = some (.cells cs e' (0, 0)) ∧ e' = 37 := fun k hk => by obtain ⟨_, cs, h1⟩ := own_type h.rows k hk; exact ⟨cs, _, h1, rfl⟩
  have hbx : w1.heap[p]? = some (.cells #[sv, fv] 56 (0, 0)) := (hg.block p (lt_heap h.box) fun e => by
    obtain ⟨cs, e', h1, h2⟩ := hne p e.symm
    rw [h.box] at h1
    injection h1 with h1
    injection h1 with _ h1 _
    rw [h2] at h1
    exact absurd h1 (by decide)).trans h.box
  have hs := grown_set w1 p 1 fv'
  have hp : ∀ k, some p = some k → ∃ cs e', w1.heap[k]? = some (.cells cs e' (0, 0)) ∧ e' = 56 := fun k hk => by cases hk; exact ⟨_, _, hbx, rfl⟩
  have key : ∀ v l, IL w v l → IL (w1.setCell ⟨p, 1, none⟩ fv') v l := fun v l hv =>
    il_other (il_other hv hg fun k hk => by obtain ⟨cs, e', h1, h2⟩ := hne k hk; exact ⟨cs, e', h1, by rw [h2]; decide⟩) hs fun k hk => by obtain ⟨cs, e', h1, h2⟩ := hp k hk; exact ⟨cs, e', h1, by rw [h2]; decide⟩
  refine ⟨⟨box_set1 _ hbx, h.low, ?_, ?_, fun i hi => ?_⟩, ?_⟩
  · exact row_other (row_other h.sets hg fun k hk => by obtain ⟨cs, e', h1, h2⟩ := hne k hk; exact ⟨cs, e', h1, by rw [h2]; decide⟩) hs fun k hk => by obtain ⟨cs, e', h1, h2⟩ := hp k hk; exact ⟨cs, e', h1, by rw [h2]; decide⟩
  · have := row_other hown hs fun k hk => by obtain ⟨cs, e', h1, h2⟩ := hp k hk; exact ⟨cs, e', h1, by rw [h2]; decide⟩
    rwa [rowV_snoc] at this
  · by_cases e : i = n
    · rw [if_pos e, if_pos e]; exact key _ _ hu
    · rw [if_neg e, if_neg e]; exact key _ _ (h.lists i (by omega))
  · exact (KT.grown hg fun k hk => by obtain ⟨h0, cs, h1⟩ := own_type h.rows k hk; exact ⟨h0, cs, _, Or.inr (Or.inr h1)⟩).trans (KT.set w1 1 fv' h.low ⟨_, _, Or.inl hbx⟩)
/-- One list is another. -/
theorem BlX.setRow {gf c : Nat} (h : BlX B w p sv (.slice (some ⟨gf, 0, none⟩) n c) m set n vs F) (j : Nat) (u : Value) (l : List Int) (hu : IL w u l) :
    BlX B (w.setCell ⟨gf, j, none⟩ u) p sv (.slice (some ⟨gf, 0, none⟩) n c) m set n (fun i => if i = j then u else vs i) (fun i => if i = j then l else F i) ∧ KT B w (w.setCell ⟨gf, j, none⟩ u) := by
  obtain ⟨h0, cs, h1⟩ := own_type h.rows gf rfl
  have hs := grown_set w gf j u
  have hp : ∀ k, some gf = some k → ∃ cs e', w.heap[k]? = some (.cells cs e' (0, 0)) ∧ e' = 37 := fun k hk => by cases hk; exact ⟨_, _, h1, rfl⟩
  have key : ∀ v l, IL w v l → IL (w.setCell ⟨gf, j, none⟩ u) v l := fun v l hv => il_other hv hs fun k hk => by obtain ⟨cs, e', h1, h2⟩ := hp k hk; exact ⟨cs, e', h1, by rw [h2]; decide⟩
  refine ⟨⟨?_, h.low, ?_, ?_, fun i hi => ?_⟩, ?_⟩
  · exact (hs.block p (lt_heap h.box) fun e => by
      cases e
      rw [h.box] at h1
      injection h1 with h1
      injection h1 with _ h1 _
      exact absurd h1 (by decide)).trans h.box
  · exact row_other h.sets hs fun k hk => by obtain ⟨cs, e', h1, h2⟩ := hp k hk; exact ⟨cs, e', h1, by rw [h2]; decide⟩
  · have := (h.rows.stored j u).1
    rwa [rowV_set] at this
  · by_cases e : i = j
    · rw [if_pos e, if_pos e]; exact key _ _ hu
    · rw [if_neg e, if_neg e]; exact key _ _ (h.lists i hi)
  · exact KT.set w j u h0 ⟨_, _, Or.inr (Or.inr h1)⟩
end
/-- A builder that keeps these places. -/
def Bl (B : Nat) (w : World) (p : Nat) (G : Gs) : Prop := G.Ok ∧ ∃ sv fv vs F, BlX B w p sv fv G.n G.set G.n vs F ∧ ∀ i, i < G.n → IsL (F i) (G.fo i)
theorem Bl.below {B : Nat} {w w' : World} {p : Nat} {G : Gs} (h : Bl B w p G) (hb : Below w.heap.size w w') : Bl B w' p G := by
  obtain ⟨h0, sv, fv, vs, F, h1, h2⟩ := h
  exact ⟨h0, sv, fv, vs, F, h1.below hb, h2⟩
/-- A part of a pattern: what is first, what last, and whether it matches the empty text. -/
structure Pa where
  fi : Nat → Bool
  la : Nat → Bool
  nu : Bool
def PtV (w : World) (v : Value) (P : Pa) : Prop := ∃ vf vl lf ll, v = .agg #[vf, vl, .bool P.nu] ∧ IL w vf lf ∧ IsL lf P.fi ∧ IL w vl ll ∧ IsL ll P.la
theorem PtV.below {w w' : World} {v : Value} {P : Pa} (h : PtV w v P) (hb : Below w.heap.size w w') : PtV w' v P := by
  obtain ⟨vf, vl, lf, ll, h0, h1, h2, h3, h4⟩ := h
  exact ⟨vf, vl, lf, ll, h0, h1.below hb, h2, h3.below hb, h4⟩
theorem PtV.kt {B : Nat} {w w' : World} {v : Value} {P : Pa} (h : PtV w v P) (hb : KT B w w') : PtV w' v P := by
  obtain ⟨vf, vl, lf, ll, h0, h1, h2, h3, h4⟩ := h
  exact ⟨vf, vl, lf, ll, h0, h1.kt hb, h2, h3.kt hb, h4⟩
/-- 'append' of a list to a row of the call's own. -/
theorem wpList_append_il {w : World} {ops : Array Oper} {rest : List Oper} {o : Oper} {a : Act} {Q : Exit → Act → World → Prop} (hgd : o.guard = none) (s x : Operand)
    (ho : o.op = .call { callee := .builtin .append, args := #[s, x], argTypes := #[37, 37] }) (base : Nat) (v u : Value) (m l : List Int) (hs : a.eval s = v) (hown : w.ownsRow base 3 1 v m.length (m.map (Value.int .i64))) (hx : a.eval x = u) (hu : IL w u l)
    (hlen : m.length + l.length ≤ 100000) (hbase : base ≤ w.heap.size)
    (h : ∀ v' w', w'.ownsRow base 3 1 v' (m ++ l).length ((m ++ l).map (Value.int .i64)) → w.grownBy w' v.ownBlock → wpList Try.prog ops Q rest (a.put o.dst v') w') : wpList Try.prog ops Q (o :: rest) a w := by
  obtain ⟨i0, hi, hz0, hz1, hz2⟩ := info_parts info3
  obtain ⟨ad, cap, rfl, h1, h2, h0, h3⟩ := hu
  cases ad with
  | none =>
    obtain rfl := h0 rfl
    have hl : l = [] := List.eq_nil_of_length_eq_zero (by omega)
    subst hl
    refine wpList_plain hgd fun K hK => ?_
    have hrun := run_append_owned_none (P := Try.prog) w base 37 o.type 3 i0 1 Try.underlying37 hi v _ _ hown
    unfold Oper.wp execOp
    simp only [ho, resolve, invoke, builtin, Sem.run_bind, Sem.run_pure, Result.andThen_ok, List.map_toArray, List.map_cons, List.map_nil, hs, hx, List.length_nil, hrun]
    exact hK _ _ (h _ _ (by simpa using hown) (World.grownBy.refl _ _))
  | some ad =>
    refine wpList_append_own w hgd s x 37 ho base 3 i0 (.int .i64 0) 1 8 Try.underlying37 hi hz0 hz1 hz2 rfl (by omega) v m.length _ hs hown ad l.length cap (l.map (Value.int .i64)) hx (by simp) (fun j w1 hj => ?_) (ints_oneCell _ _) (by unfold maxLen; omega) (by omega) hbase fun v' w' k1 k2 _ => h v' w' (by simpa using k1) k2
    have hjl : j < l.length := by have := (List.getElem?_eq_some_iff.1 hj).1; simpa using this
    obtain ⟨g, off, cs, f, ha, _, hc⟩ := h3 (by omega)
    cases ha
    rw [Addr.add_lit, hc j hjl]
    rw [List.getElem?_map, List.getElem?_eq_getElem hjl] at hj
    rw [List.getD_eq_getElem?_getD, List.getElem?_eq_getElem hjl]
    exact hj
end Go.Proofs.Ytbahadgcmaabcaa
/- Contracts of cmp.Compare at int, and of the landed code's merged: two lists that rise, as one. -/
namespace Go.Proofs.Ytbahadgcmaabcaa
open Go.RowKit Go
set_option maxRecDepth 100000 in
theorem nan_any (x : Int) (w : World) : Calls Try.prog 70 #[.int .i64 x] w fun e w' => e = .returned (.bool false) ∧ w = w' := by
  go_enter Try.func70, Try.ntmps70
  go_wp2
  go_ret
  exact ⟨rfl, rfl⟩
set_option maxRecDepth 100000 in
theorem cmp_lt (x y : Int) (h : x < y) (w : World) : Calls Try.prog 68 #[.int .i64 x, .int .i64 y] w fun e w' => e = .returned (.int .i64 (-1)) ∧ w' = w := by
  go_enter Try.func68, Try.ntmps68
  go_wp2_with (go_at_call 70; refine (nan_any _ _).mono ?_; rintro e w' ⟨rfl, rfl⟩)
  go_ret
  exact ⟨rfl, rfl⟩
set_option maxRecDepth 100000 in
theorem cmp_gt (x y : Int) (h : y < x) (w : World) : Calls Try.prog 68 #[.int .i64 x, .int .i64 y] w fun e w' => e = .returned (.int .i64 1) ∧ w' = w := by
  have h' : ¬ x < y := by omega
  go_enter Try.func68, Try.ntmps68
  go_wp2_with (go_at_call 70; refine (nan_any _ _).mono ?_; rintro e w' ⟨rfl, rfl⟩)
  go_ret
  exact ⟨rfl, rfl⟩
set_option maxRecDepth 100000 in
theorem cmp_eq (x : Int) (w : World) : Calls Try.prog 68 #[.int .i64 x, .int .i64 x] w fun e w' => e = .returned (.int .i64 0) ∧ w' = w := by
  go_enter Try.func68, Try.ntmps68
  go_wp2_with (go_at_call 70; refine (nan_any _ _).mono ?_; rintro e w' ⟨rfl, rfl⟩)
  go_ret
  exact ⟨rfl, rfl⟩
/-- A list of which there is a first: where it lies, and the rest. -/
theorem IL.front {w : World} {v : Value} {x : Int} {l : List Int} (h : IL w v (x :: l)) : ∃ g off cap, v = .slice (some ⟨g, off, none⟩) (l.length + 1) cap ∧ l.length + 1 ≤ cap ∧ cap ≤ maxLen ∧ g < w.heap.size ∧ w.cell? ⟨g, off, none⟩ = some (.int .i64 x) ∧
    (cap = 1 → IL w (.slice (some ⟨g, off, none⟩) l.length (cap - 1)) l) ∧ (cap ≠ 1 → IL w (.slice (some ⟨g, off + 1, none⟩) l.length (cap - 1)) l) := by
  obtain ⟨a, cap, rfl, h1, h2, _, h3⟩ := h
  obtain ⟨g, off, cs, f, rfl, hg, hc⟩ := h3 (by simp)
  simp only [List.length_cons] at h1 hc
  refine ⟨g, off, cap, rfl, h1, h2, lt_heap hg, by simpa using hc 0 (by omega), fun e => ?_, fun e => ?_⟩
  · refine ⟨_, _, rfl, by omega, by omega, (fun h => by cases h), fun hp => by omega⟩
  · refine ⟨_, _, rfl, by omega, by omega, (fun h => by cases h), fun hp => ⟨g, off + 1, cs, f, rfl, hg, fun i hi => ?_⟩⟩
    have := hc (i + 1) (by omega)
    rw [show off + (i + 1) = off + 1 + i by omega] at this
    simpa using this
theorem info3b : (Try.prog.info? 3).map (fun i => (i.zero, i.size, i.bytes)) = some (some (.int .i64 0), 1, 8) := info3
/-- What merged comes to. -/
def GivesL (w : World) (l : List Int) (e : Ending) (w' : World) : Prop := ∃ v, e = .returned v ∧ IL w' v l ∧ Below w.heap.size w w'
theorem grownBy_drewN (w : World) (row : Option Nat) (n : Nat) : w.grownBy (w.drewN n) row := ⟨rfl, rfl, rfl, Nat.le_refl _, fun _ _ _ => rfl⟩
/-- While merged runs. -/
structure MgI (w : World) (r : List Int) (K gk : Nat) (la lb o : List Int) (va vb vl : Value) (wr : World) : Prop where
  a : IL w va la
  b : IL w vb lb
  own : wr.ownsRow w.heap.size 3 1 vl o.length (o.map (Value.int .i64))
  bel : Below w.heap.size w wr
  eq : r = o ++ mrg la lb
  ra : la.Pairwise (· < ·)
  rb : lb.Pairwise (· < ·)
  gk : gk = la.length + lb.length
  len : o.length + la.length + lb.length ≤ K
theorem MgI.alike {w : World} {r : List Int} {K gk : Nat} {la lb o : List Int} {va vb vl : Value} {wr : World} (h : MgI w r K gk la lb o va vb vl wr) (n : Nat) : MgI w r K gk la lb o va vb vl (wr.drewN n) := ⟨h.a, h.b, h.own, below_drewN h.bel n, h.eq, h.ra, h.rb, h.gk, h.len⟩
/-- One number more. -/
theorem MgI.next {w : World} {r : List Int} {K gk : Nat} {la lb o : List Int} {va vb vl : Value} {wr : World} (h : MgI w r K gk la lb o va vb vl wr) {w1 : World} {va' vb' vl' : Value} {la' lb' : List Int} {z : Int} {m : Nat} (hm : m = o.length) (hg : wr.grownBy w1 vl.ownBlock)
    (hown : w1.ownsRow w.heap.size 3 1 vl' (m + 1) (o.map (Value.int .i64) ++ [.int .i64 z])) (ha : IL w va' la') (hb : IL w vb' lb') (e : mrg la lb = z :: mrg la' lb') (ra : la'.Pairwise (· < ·)) (rb : lb'.Pairwise (· < ·)) (hl : la'.length + lb'.length + 1 = la.length + lb.length) :
    MgI w r K (la'.length + lb'.length) la' lb' (o ++ [z]) va' vb' vl' w1 := by
  subst hm
  have h1 := h.len
  refine ⟨ha, hb, by simpa using hown, h.bel.grown hg h.bel.size fun k hk => (own_type h.own k hk).1, by rw [h.eq, e]; simp, ra, rb, rfl, by simp; omega⟩
theorem mrg_lt {x y : Int} {a b : List Int} (h : x < y) : mrg (x :: a) (y :: b) = x :: mrg a (y :: b) := by rw [mrg, if_pos h]
theorem mrg_gt {x y : Int} {a b : List Int} (h : y < x) : mrg (x :: a) (y :: b) = y :: mrg (x :: a) b := by rw [mrg, if_neg (by omega), if_pos h]
theorem mrg_same {x : Int} {a b : List Int} : mrg (x :: a) (x :: b) = mrg a (x :: b) := by rw [mrg, if_neg (by omega), if_neg (by omega)]
theorem mrg_nil (a : List Int) : mrg a [] = a := by cases a <;> simp [mrg]
theorem nil_mrg (b : List Int) : mrg [] b = b := by simp [mrg]
section
variable {w : World} {r : List Int} {K gk : Nat} {x y : Int} {la lb o : List Int} {va vb vl : Value} {wr : World}
theorem MgI.stepA (h : MgI w r K gk (x :: la) (y :: lb) o va vb vl wr) (hxy : x < y) (va' vl' : Value) (w1 : World) (ha : IL w va' la) (hg : wr.grownBy w1 vl.ownBlock) (hown : w1.ownsRow w.heap.size 3 1 vl' (o.length + 1) (o.map (Value.int .i64) ++ [.int .i64 x])) :
    ∃ la' lb' o', Hid (MgI w r K (la.length + (lb.length + 1)) la' lb' o' va' vb vl' w1) :=
  ⟨la, y :: lb, _, h.next rfl hg hown ha h.b (mrg_lt hxy) (List.pairwise_cons.1 h.ra).2 h.rb (by simp; omega)⟩
theorem MgI.stepB (h : MgI w r K gk (x :: la) (y :: lb) o va vb vl wr) (hxy : y < x) (vb' vl' : Value) (w1 : World) (hb : IL w vb' lb) (hg : wr.grownBy w1 vl.ownBlock) (hown : w1.ownsRow w.heap.size 3 1 vl' (o.length + 1) (o.map (Value.int .i64) ++ [.int .i64 y])) :
    ∃ la' lb' o', Hid (MgI w r K (la.length + 1 + lb.length) la' lb' o' va vb' vl' w1) :=
  ⟨x :: la, lb, _, h.next rfl hg hown h.a hb (mrg_gt hxy) h.ra (List.pairwise_cons.1 h.rb).2 (by simp; omega)⟩
theorem MgI.stepC (h : MgI w r K gk (x :: la) (x :: lb) o va vb vl wr) (va' : Value) (n : Nat) (ha : IL w va' la) : ∃ la' lb' o', Hid (MgI w r K (la.length + (lb.length + 1)) la' lb' o' va' vb vl (wr.drewN n)) :=
  ⟨la, x :: lb, o, ⟨ha, h.b, h.own, below_drewN h.bel n, by rw [h.eq, mrg_same], (List.pairwise_cons.1 h.ra).2, h.rb, rfl, by have := h.len; simp at this ⊢; omega⟩⟩
theorem MgI.fin (h : MgI w r K gk la lb o va vb vl wr) (he : la = [] ∨ lb = []) : r = o ++ la ++ lb := by
  rcases he with rfl | rfl
  · rw [h.eq, nil_mrg]; simp
  · rw [h.eq, mrg_nil]; simp
end
set_option maxRecDepth 100000 in
set_option maxHeartbeats 4000000 in
theorem merged_any (l m : List Int) (va vb : Value) (w : World) (hla : IL w va l) (hlb : IL w vb m) (hl : l.Pairwise (· < ·)) (hm : m.Pairwise (· < ·)) (hK : l.length + m.length ≤ 5000) :
    Calls Try.prog 55 #[va, vb] w (GivesL w (mrg l m)) := by
  obtain ⟨i0, hi, hz0, hz1, hz2⟩ := info_parts info3b
  obtain ⟨r, hr⟩ : ∃ r, r = mrg l m := ⟨_, rfl⟩
  rw [← hr]
  have HST : Hid (∀ cap W, W.ownsRow w.heap.size 3 1 (.slice (some ⟨w.heap.size, 0, none⟩) 0 cap) 0 [] → w.grownBy W none → MgI w r (l.length + m.length) (l.length + m.length) l m [] va vb (.slice (some ⟨w.heap.size, 0, none⟩) 0 cap) W) := Lib.hid fun cap W h1 h2 => by
    have hb : Below w.heap.size w W := (Below.refl _ _).grown h2 (Nat.le_refl _) (fun k hk => by cases hk)
    exact ⟨hla, hlb, by simpa using h1, hb, by rw [hr]; rfl, hl, hm, rfl, by simp⟩
  obtain ⟨aa, ca, rfl, a1, a2, _, _⟩ := hla
  obtain ⟨ab, cb, rfl, b1, b2, _, _⟩ := hlb
  obtain ⟨na, hna⟩ : ∃ na, na = l.length := ⟨_, rfl⟩
  obtain ⟨nb, hnb⟩ : ∃ nb, nb = m.length := ⟨_, rfl⟩
  rw [← hna, ← hnb] at HST hK ⊢
  have hi2 : (na : Int) + (nb : Int) ≤ 5000 := by omega
  clear hr hl hm hna hnb a1 a2 b1 b2
  go_enter Try.func55, Try.ntmps55
  go_wp2_with (at_make; refine wpList_make_own _ rfl _ _ 37 rfl w.heap.size 3 i0 (.int .i64 0) 1 Try.underlying37 hi hz0 hz1 .i64 .i64 _ (na + nb) rfl rfl (by omega) (by rw [hz2]; omega) (by unfold maxLen; omega) (Nat.le_refl _) ?_; intro w1 hown1 hg1)
  have HS := Lib.hid (HST.out _ _ hown1 hg1)
  clear hown1 hg1 HST
  go_loopg [0, 1, 5] (na + nb) (fun gk x y z wr => ∃ la lb o, Hid (MgI w r (na + nb) gk la lb o x y z wr))
  case atStart => exact ⟨_, _, _, HS⟩
  case round =>
    obtain ⟨la, lb, o, HI⟩ := hrel
    have hlen := HI.out.len
    have hfin : la = [] ∨ lb = [] → Hid (∀ v' W, W.ownsRow w.heap.size 3 1 v' (o ++ la ++ lb).length ((o ++ la ++ lb).map (Value.int .i64)) → Below w.heap.size w W → GivesL w r (.returned v') W) := fun he => Lib.hid fun v' W h1 h2 => ⟨v', rfl, by rw [HI.out.fin he]; exact il_row h1, h2⟩
    by_cases he : la = [] ∨ lb = []
    · have HF := Lib.hid (hfin he).out
      have hA := Lib.hid (HI.out.a)
      have hB := Lib.hid (HI.out.b)
      have HX := Lib.hid HI.out.own
      have HBL := Lib.hid HI.out.bel
      obtain ⟨a1, c1, rfl, _, _, _, _⟩ := HI.out.a
      obtain ⟨a2, c2, rfl, _, _, _, _⟩ := HI.out.b
      obtain ⟨av, cv, rfl⟩ := row_slice HI.out.own
      have he' : la.length = 0 ∨ (decide (0 < la.length) = true ∧ lb.length = 0) := by
        by_cases h0 : la.length = 0
        · exact Or.inl h0
        · rcases he with e | e
          · rw [e] at h0; exact absurd rfl h0
          · exact Or.inr ⟨decide_eq_true (Nat.pos_of_ne_zero h0), by rw [e]; rfl⟩
      obtain ⟨p, hp⟩ : ∃ p, p = la.length := ⟨_, rfl⟩
      obtain ⟨q, hq⟩ : ∃ q, q = lb.length := ⟨_, rfl⟩
      obtain ⟨u, hu⟩ : ∃ u, u = o.length := ⟨_, rfl⟩
      have hl1 : o.length + la.length ≤ 100000 := by omega
      have hl2 : (o ++ la).length + lb.length ≤ 100000 := by rw [List.length_append]; omega
      have HL1 := Lib.hid hl1
      have HL2 := Lib.hid hl2
      rw [← hp] at hA he' ⊢
      rw [← hq] at hB he' ⊢
      rw [← hu] at ⊢
      have HU := Lib.hid hu
      clear hfin HI hl1 hl2 hlen hp hq he hu
      rcases he' with rfl | ⟨he', rfl⟩
      all_goals
        go_wp2_with (first
          | (refine wpList_append_il rfl (.tmp 52) (.tmp 53) rfl w.heap.size (.slice av u cv) _ o la rfl (by rw [HU.out]; exact HX.out) rfl (hA.out.below HBL.out) HL1.out HBL.out.size ?_; intro v1 w1 hown1 hgr1; have HB1 := Lib.hid (HBL.out.grown hgr1 HBL.out.size fun k hk => (own_type HX.out k (by rw [HU.out] at hk; exact hk)).1); have HO1 := Lib.hid hown1; clear hown1 hgr1)
          | (refine wpList_append_il rfl (.tmp 54) (.tmp 55) rfl w.heap.size v1 _ (o ++ la) lb rfl HO1.out rfl (hB.out.below HB1.out) HL2.out HB1.out.size ?_; intro v2 w2 hown2 hgr2; have HB2 := Lib.hid (HB1.out.grown hgr2 HB1.out.size fun k hk => (own_type HO1.out k hk).1); have HO2 := Lib.hid hown2; clear hown2 hgr2))
        go_ret
        exact HF.out _ _ HO2.out HB2.out
    rcases la with _ | ⟨x, la⟩
    · exact absurd (Or.inl rfl) he
    rcases lb with _ | ⟨y, lb⟩
    · exact absurd (Or.inr rfl) he
    · clear hfin
      obtain ⟨ga, fa, ka, rfl, i1, i2, i3, cx, HA1, HA2⟩ := HI.out.a.front
      obtain ⟨gb, fb, kb, rfl, j1, j2, j3, cy, HB1, HB2⟩ := HI.out.b.front
      obtain ⟨av, cv, rfl⟩ := row_slice HI.out.own
      have hbel := HI.out.bel
      replace cx := (hbel.cell (p := ⟨ga, fa, none⟩) i3).trans cx
      replace cy := (hbel.cell (p := ⟨gb, fb, none⟩) j3).trans cy
      have HX := Lib.hid HI.out.own
      have HSZ := Lib.hid hbel.size
      have hgk := HI.out.gk
      have HNA : Hid (x < y → ∀ va' vl' w1, IL w va' la → wr.grownBy w1 (Value.slice av o.length cv).ownBlock → w1.ownsRow w.heap.size 3 1 vl' (o.length + 1) (o.map (Value.int .i64) ++ [.int .i64 x]) → ∃ la' lb' o', Hid (MgI w r (na + nb) (la.length + (lb.length + 1)) la' lb' o' va' (.slice (some ⟨gb, fb, none⟩) (lb.length + 1) kb) vl' w1)) := Lib.hid fun hxy => HI.out.stepA hxy
      have HNB : Hid (y < x → ∀ vb' vl' w1, IL w vb' lb → wr.grownBy w1 (Value.slice av o.length cv).ownBlock → w1.ownsRow w.heap.size 3 1 vl' (o.length + 1) (o.map (Value.int .i64) ++ [.int .i64 y]) → ∃ la' lb' o', Hid (MgI w r (na + nb) (la.length + 1 + lb.length) la' lb' o' (.slice (some ⟨ga, fa, none⟩) (la.length + 1) ka) vb' vl' w1)) := Lib.hid fun hxy => HI.out.stepB hxy
      have HNC : Hid (x = y → ∀ va' n, IL w va' la → ∃ la' lb' o', Hid (MgI w r (na + nb) (la.length + (lb.length + 1)) la' lb' o' va' (.slice (some ⟨gb, fb, none⟩) (lb.length + 1) kb) (.slice av o.length cv) (wr.drewN n))) := Lib.hid fun hxy => by subst hxy; exact HI.out.stepC
      clear HI hbel
      obtain ⟨p, hp⟩ : ∃ p, p = la.length := ⟨_, rfl⟩
      obtain ⟨q, hq⟩ : ∃ q, q = lb.length := ⟨_, rfl⟩
      obtain ⟨u, hu⟩ : ∃ u, u = o.length := ⟨_, rfl⟩
      rw [← hp] at i1 HA1 HA2 HNA HNB HNC ⊢
      rw [← hq] at j1 HB1 HB2 HNA HNB HNC ⊢
      rw [← hu] at hlen HNA HNB HNC HX ⊢
      simp only [List.length_cons, ← hp, ← hq] at hlen hgk
      unfold maxLen at i2 j2
      have n1 : (p : Int) + 1 ≤ 9223372036854775807 := by omega
      have n2 : (q : Int) + 1 ≤ 9223372036854775807 := by omega
      have o1 : (1 : Int) ≤ (p : Int) + 1 := by omega
      have o2 : (1 : Int) ≤ (q : Int) + 1 := by omega
      have HGK := Lib.hid hgk
      clear hp hq hu hgk
      rcases Int.lt_trichotomy x y with hxy | hxy | hxy
      · have HN := Lib.hid (HNA.out hxy)
        clear HNA HNB HNC
        by_cases hk : ka = 1
        all_goals
          have HA3 := Lib.hid (by first | exact HA1 hk | exact HA2 hk)
          clear HA1 HA2 HB1 HB2
          try (subst hk; obtain rfl : p = 0 := by omega)
          go_wp2_with fail
          go_quiet ((go_at_call 68; exact Calls.quiet_of_same (cmp_lt _ _ hxy _)))
          go_wp2_with fail
          go_region_law
            (first
              | (refine step_append_own (by rfl) (.tmp 33) (.tmp 37) 37 (by rfl) w.heap.size 3 i0 _ 1 8 Try.underlying37 hi hz0 hz1 hz2 rfl (by omega) (.slice av u cv) u (o.map (Value.int .i64)) (by rfl) (World.ownsRow.alloc (w := (wr.drewN nq).drew) HX.out _) ⟨wr.heap.size, 0, none⟩ 1 1 [.int .i64 x] (by rfl) (by rfl) (World.news_of_block (cs := #[.int .i64 x]) (t := 3) (fr := (0, 0)) (heap_alloc_new (wr.drewN nq).drew _)) (by simp [Value.oneCell']) (by unfold maxLen; omega) (by omega) (by simp; have := HSZ.out; omega) ?_; intro v1 w1 hown1 hgrow hnil))
          all_goals
            have HR := Lib.hid (HN.out _ _ _ HA3.out (grownBy_trans (grownBy_trans (grownBy_drewN wr _ _) (World.grownBy_alloc _ _ _)) hgrow) hown1)
            go_wp2
            (first | go_roundg (p + (q + 1)) | go_roundg (0 + (q + 1)))
            case measure => exact (show _ < gk by have := HGK.out; omega)
            case rel => exact HR.out
      · have HN := Lib.hid (HNC.out hxy)
        clear HNA HNB HNC
        subst hxy
        by_cases hk : ka = 1
        all_goals
          have HA3 := Lib.hid (by first | exact HA1 hk | exact HA2 hk)
          clear HA1 HA2 HB1 HB2
          try (subst hk; obtain rfl : p = 0 := by omega)
          go_wp2_with fail
          go_quiet ((go_at_call 68; exact Calls.quiet_of_same (cmp_eq _ _)))
          go_wp2
          (first | go_roundg (p + (q + 1)) | go_roundg (0 + (q + 1)))
          case measure => exact (show _ < gk by have := HGK.out; omega)
          case rel => exact HN.out _ _ HA3.out
      · have HN := Lib.hid (HNB.out hxy)
        clear HNA HNB HNC
        by_cases hk : kb = 1
        all_goals
          have HA3 := Lib.hid (by first | exact HB1 hk | exact HB2 hk)
          clear HA1 HA2 HB1 HB2
          try (subst hk; obtain rfl : q = 0 := by omega)
          go_wp2_with fail
          go_quiet ((go_at_call 68; exact Calls.quiet_of_same (cmp_gt _ _ hxy _)))
          go_wp2_with fail
          go_region_law
            (first
              | (refine step_append_own (by rfl) (.tmp 44) (.tmp 48) 37 (by rfl) w.heap.size 3 i0 _ 1 8 Try.underlying37 hi hz0 hz1 hz2 rfl (by omega) (.slice av u cv) u (o.map (Value.int .i64)) (by rfl) (World.ownsRow.alloc (w := (wr.drewN nq).drew) HX.out _) ⟨wr.heap.size, 0, none⟩ 1 1 [.int .i64 y] (by rfl) (by rfl) (World.news_of_block (cs := #[.int .i64 y]) (t := 3) (fr := (0, 0)) (heap_alloc_new (wr.drewN nq).drew _)) (by simp [Value.oneCell']) (by unfold maxLen; omega) (by omega) (by simp; have := HSZ.out; omega) ?_; intro v1 w1 hown1 hgrow hnil))
          all_goals
            have HR := Lib.hid (HN.out _ _ _ HA3.out (grownBy_trans (grownBy_trans (grownBy_drewN wr _ _) (World.grownBy_alloc _ _ _)) hgrow) hown1)
            go_wp2
            (first | go_roundg (p + 1 + q) | go_roundg (p + 1 + 0))
            case measure => exact (show _ < gk by have := HGK.out; omega)
            case rel => exact HR.out
end Go.Proofs.Ytbahadgcmaabcaa
