/- What the maker's Rx keeps; the patterns that it makes. -/
import Derived.Test.YtnfchlkdppblfaaDoorMd
namespace Go.Proofs.YtnfchlkdppblfaaDoor
open Go.RowKit
set_option maxRecDepth 100000 in
theorem mk_drew {w : World} {p : Nat} {a : Option Addr} {n cap : Nat} {F : Nat → Int} {A : Nat} (h : Mk w p a n cap F A) : Mk w.drew p a n cap F A := ⟨h.box, h.row⟩
set_option maxRecDepth 100000 in
theorem at8_ne {w : World} {p : Nat} {a : Option Addr} {n cap : Nat} {F : Nat → Int} {A : Nat} (h : Mk w p a n cap F A) {g o : Nat} {t : Tr} (h8 : At8 w g o t) : g ≠ p := by
  rintro rfl
  have h2 := h8.2.2.1
  rw [show o + 2 = 2 + o by omega, cell_of_row w g (2 + o) _ _ _ h.box] at h2
  simp at h2
set_option maxRecDepth 100000 in
/-- The maker's own steps do not touch a pattern. -/
theorem Lives.grown {w w' : World} {p : Nat} {a : Option Addr} {n cap : Nat} {F : Nat → Int} {A : Nat} (hM : Mk w p a n cap F A) (hG : w.grownBy w' (some p)) {B : Nat} (hB : B ≤ w.heap.size) : ∀ {t : Tr}, Lives w B t → Lives w' B t
  | .node _ _ _ _ _ m _ kid, ⟨hs, h1, h2, hc, hk⟩ => ⟨hs, h1, h2, fun hp => by
      obtain ⟨g, off, ha, hg, hc⟩ := hc hp
      refine ⟨g, off, ha, hg, fun i hi => ?_⟩
      have hne : g ≠ p := at8_ne hM (hc i hi)
      have hkeep : ∀ {c : Nat} {v : Value}, w.cell? ⟨g, c, none⟩ = some v → w'.cell? ⟨g, c, none⟩ = some v := fun h => hG.cell h (by simp; omega)
      obtain ⟨c0, c1, c2, c3, c4, c5, c6, c7⟩ := hc i hi
      exact ⟨hkeep c0, hkeep c1, hkeep c2, hkeep c3, hkeep c4, hkeep c5, hkeep c6, hkeep c7⟩, fun i hi => Lives.grown hM hG hB (t := kid i) (hk i hi)⟩
  | .nul, h => False.elim h
/-- What Rx gives back. -/
def RxI (w : World) (p : Nat) (a : Option Addr) (n cap : Nat) (F : Nat → Int) (A D : Nat) (e : Ending) (w' : World) : Prop :=
  ∃ t : Tr, e = .returned (nodeV t.k t.s t.lo t.hi (.slice t.a t.n t.cap)) ∧ okT t (D + 1) = true ∧ (cnt t + 1 ≤ 2 * 2 ^ D ∧ sml t) ∧ Lives w' w'.heap.size t ∧ ∃ A', A' + 1 ≤ A + 4 * 2 ^ D ∧ Mk w' p a n cap F A' ∧ w.grownBy w' (some p)
set_option maxRecDepth 100000 in
theorem pow_pos2 (D : Nat) : 1 ≤ 2 ^ D := Nat.one_le_two_pow
abbrev rowTwo (t u : Tr) : Array Value := #[.int .i64 t.k, .int .u64 (t.s 0), .int .u64 (t.s 1), .int .u64 (t.s 2), .int .u64 (t.s 3), .int .i64 t.lo, .int .i64 t.hi, .slice t.a t.n t.cap, .int .i64 u.k, .int .u64 (u.s 0), .int .u64 (u.s 1), .int .u64 (u.s 2), .int .u64 (u.s 3), .int .i64 u.lo, .int .i64 u.hi, .slice u.a u.n u.cap]
def pair (t u : Tr) (i : Nat) : Tr := if i = 0 then t else u
set_option maxRecDepth 100000 in
theorem two_at {w : World} {g : Nat} {t u : Tr} (h : w.heap[g]? = some (.cells (rowTwo t u) 28 (0, 0))) : ∀ i, i < 2 → At8 w g (0 + i * 8) (pair t u i) := by
  intro i hi
  match i, hi with
  | 0, _ => exact ⟨cell_of_row w g 0 _ _ _ h, cell_of_row w g 1 _ _ _ h, cell_of_row w g 2 _ _ _ h, cell_of_row w g 3 _ _ _ h, cell_of_row w g 4 _ _ _ h, cell_of_row w g 5 _ _ _ h, cell_of_row w g 6 _ _ _ h, cell_of_row w g 7 _ _ _ h⟩
  | 1, _ => exact ⟨cell_of_row w g 8 _ _ _ h, cell_of_row w g 9 _ _ _ h, cell_of_row w g 10 _ _ _ h, cell_of_row w g 11 _ _ _ h, cell_of_row w g 12 _ _ _ h, cell_of_row w g 13 _ _ _ h, cell_of_row w g 14 _ _ _ h, cell_of_row w g 15 _ _ _ h⟩
set_option maxRecDepth 100000 in
theorem n_le_cnt (t : Tr) : t.n ≤ cnt t := by
  cases t with
  | nul => simp [Tr.n]
  | node k s lo hi a n cap kid => have := sumTo_ge (f := fun i => cnt (kid i)) (fun i => cnt_pos _) n; simp only [cnt, Tr.n]; omega
set_option maxRecDepth 100000 in
theorem join_two (kind : Int) (t u : Tr) : joinTo kind (pair t u) 2 = partL kind t ++ partL kind u := by simp [joinTo, pair]
set_option maxRecDepth 100000 in
/-- Two patterns joined: what is known of the whole. -/
theorem join_ok {kind : Int} (hk : kind = 3 ∨ kind = 4) {t u : Tr} {D : Nat} (ht : okT t (D + 1) = true) (hu : okT u (D + 1) = true) (ct : cnt t + 1 ≤ 2 * 2 ^ D) (cu : cnt u + 1 ≤ 2 * 2 ^ D) (a : Option Addr) (cap : Nat) :
    okT (rowT kind a cap (joinTo kind (pair t u) 2)) (D + 1 + 1) = true ∧ cnt (rowT kind a cap (joinTo kind (pair t u) 2)) + 1 ≤ 2 * 2 ^ (D + 1) ∧ 2 ≤ (joinTo kind (pair t u) 2).length := by
  obtain ⟨t1, t2, t3⟩ := part_ok hk ht
  obtain ⟨u1, u2, u3⟩ := part_ok hk hu
  rw [rowT_cnt, join_two, cntL_append, List.length_append]
  refine ⟨rowT_ok hk (by rw [List.length_append]; omega) fun x hx => ?_, by rw [Nat.pow_succ]; omega, by omega⟩
  rcases List.mem_append.1 hx with q | q
  · exact t3 x q
  · exact u3 x q
set_option maxRecDepth 100000 in
theorem part_sml {kind : Int} {t : Tr} (h : sml t) : ∀ u ∈ partL kind t, sml u := by
  unfold partL
  split
  · intro u hu
    obtain ⟨i, hi, rfl⟩ := kidsL_mem hu
    exact sml_kid h hi
  · intro u hu
    rw [List.mem_singleton] at hu
    subst hu
    exact h
set_option maxRecDepth 100000 in
theorem join_sml {kind : Int} {a : Option Addr} {cap : Nat} {t u : Tr} (ht : sml t) (hu : sml u) : sml (rowT kind a cap (joinTo kind (pair t u) 2)) := by
  refine ⟨runs_z0, fun i hi => ?_⟩
  show sml ((joinTo kind (pair t u) 2).getD i .nul)
  have hm : ∀ x ∈ joinTo kind (pair t u) 2, sml x := fun x hx => by
    rw [join_two] at hx
    rcases List.mem_append.1 hx with q | q
    · exact part_sml ht _ q
    · exact part_sml hu _ q
  rw [List.getD_eq_getElem?_getD, List.getElem?_eq_getElem hi]
  exact hm _ (List.getElem_mem hi)
set_option maxRecDepth 100000 in
/-- The joined pattern lies in memory, and the maker with it. -/
theorem join_all {kind : Int} (hk : kind = 3 ∨ kind = 4) {t u : Tr} {D : Nat} (ht : okT t (D + 1) = true) (hu : okT u (D + 1) = true) (ct : cnt t + 1 ≤ 2 * 2 ^ D ∧ sml t) (cu : cnt u + 1 ≤ 2 * 2 ^ D ∧ sml u) {w' : World} {B0 : Nat} {v : Value}
    (lt : Lives w' w'.heap.size t) (lu : Lives w' w'.heap.size u) (hO : w'.ownsRow B0 28 8 v (joinTo kind (pair t u) 2).length (flatT (joinTo kind (pair t u) 2))) :
    ∃ x : Tr, nodeV kind z0 0 0 v = nodeV x.k x.s x.lo x.hi (.slice x.a x.n x.cap) ∧ okT x (D + 1 + 1) = true ∧ (cnt x + 1 ≤ 2 * 2 ^ (D + 1) ∧ sml x) ∧ Lives w' w'.heap.size x := by
  have h2 := (join_ok hk ht hu ct.1 cu.1 none 0).2.2
  obtain ⟨g, cap, rfl, _, _, hl⟩ := rowT_lives kind hO (by omega) (B := w'.heap.size) (fun x hx => by
    rw [join_two] at hx
    rcases List.mem_append.1 hx with q | q
    · exact part_lives lt x q
    · exact part_lives lu x q) (Nat.le_refl _)
  obtain ⟨o1, o2, _⟩ := join_ok hk ht hu ct.1 cu.1 (some ⟨g, 0, none⟩) cap
  exact ⟨_, rfl, o1, ⟨o2, join_sml ct.2 cu.2⟩, hl⟩
/-- A repeated pattern. -/
def repX (lo hi : Int) (g : Nat) (t : Tr) : Tr := .node 5 z0 lo hi (some ⟨g, 0, none⟩) 1 1 fun _ => t
set_option maxRecDepth 100000 in
theorem rep_all {lo hi : Int} (hc : countsB lo hi = true) {t : Tr} {D : Nat} (ht : okT t (D + 1) = true) (ct : cnt t + 1 ≤ 2 * 2 ^ D ∧ sml t) {w : World} {g : Nat} (lt : Lives w w.heap.size t) (hg : w.heap[g]? = some (.cells (row8 t.k t.s t.lo t.hi (.slice t.a t.n t.cap)) 28 (0, 0))) :
    okT (repX lo hi g t) (D + 1 + 1) = true ∧ (cnt (repX lo hi g t) + 1 ≤ 2 * 2 ^ (D + 1) ∧ sml (repX lo hi g t)) ∧ Lives w w.heap.size (repX lo hi g t) := by
  have hf : fitsB (repX lo hi g t) = true := by simp [fitsB, repX, Tr.k, Tr.s, Tr.lo, Tr.hi, Tr.n, hc, plainB, eq_z0]
  refine ⟨?_, ⟨?_, runs_z0, fun _ _ => ct.2⟩, wf_z0, Nat.le_refl _, by unfold maxLen; omega, fun _ => ⟨g, 0, rfl, (Array.getElem?_eq_some_iff.1 hg).1, fun i hi => ?_⟩, fun i hi => lt⟩
  · unfold repX at hf ⊢
    simp only [okT, hf, Bool.and_eq_true, decide_eq_true_eq]
    exact ⟨by omega, trivial, allTo_iff.2 fun i hi => ht⟩
  · rw [Nat.pow_succ]
    have := cnt_pos t
    simp only [repX, cnt, sumTo]
    omega
  · obtain rfl : i = 0 := by omega
    exact cell8 hg
set_option maxRecDepth 100000 in
/-- A box that holds no right pattern is none of a right pattern's. -/
theorem at8_box {w : World} {q : Nat} {k0 lo0 hi0 : Int} {s0 : Nat → Int} {a0 : Option Addr} {c0 : Nat} (h : w.heap[q]? = some (.cells (row8 k0 s0 lo0 hi0 (.slice a0 0 c0)) 28 (0, 0))) (h1 : k0 ≠ 1) (h2 : k0 ≠ 2) {g o : Nat} {u : Tr} (h8 : At8 w g o u) (hf : fitsB u = true) : g ≠ q := by
  rintro rfl
  have e7 := h8.2.2.2.2.2.2.2
  have e0 := h8.1
  rw [cell_of_row w g _ _ _ _ h] at e7 e0
  have ho : o = 0 := by
    rcases Nat.eq_zero_or_pos o with q | q
    · exact q
    · rw [Array.getElem?_eq_none (by simp; omega)] at e7; cases e7
  subst ho
  simp at e0 e7
  rcases fits_cases hf with ⟨q, _⟩ | ⟨q, _⟩ | ⟨_, q⟩ | ⟨_, q, _⟩ <;> omega
set_option maxRecDepth 100000 in
theorem Lives.off {w w' : World} {q : Nat} (hq : ∀ g o u, At8 w g o u → fitsB u = true → g ≠ q) (hG : w.grownBy w' (some q)) {B : Nat} : ∀ {t : Tr}, fitT t = true → Lives w B t → Lives w' B t
  | .node k s lo hi a m cap kid, hf, ⟨hs, h1, h2, hc, hk⟩ => ⟨hs, h1, h2, fun hp => by
      obtain ⟨g, off, ha, hg, hc⟩ := hc hp
      refine ⟨g, off, ha, hg, fun i hi' => ?_⟩
      have hne : g ≠ q := hq _ _ _ (hc i hi') (fitT_fits (fitT_kid hf (i := i) hi'))
      have hkeep : ∀ {c : Nat} {v : Value}, w.cell? ⟨g, c, none⟩ = some v → w'.cell? ⟨g, c, none⟩ = some v := fun h => hG.cell h (by simp; omega)
      obtain ⟨c0, c1, c2, c3, c4, c5, c6, c7⟩ := hc i hi'
      exact ⟨hkeep c0, hkeep c1, hkeep c2, hkeep c3, hkeep c4, hkeep c5, hkeep c6, hkeep c7⟩, fun i hi' => Lives.off hq hG (t := kid i) (fitT_kid hf (i := i) hi') (hk i hi')⟩
  | .nul, _, h => False.elim h
set_option maxRecDepth 100000 in
theorem setCell_grown (w : World) (q c : Nat) (v : Value) : w.grownBy (w.setCell ⟨q, c, none⟩ v) (some q) := ⟨rfl, rfl, rfl, by simp, fun k _ hk => Below.heap_setCell _ _ _ _ fun e => hk (by rw [e])⟩
set_option maxRecDepth 100000 in
theorem put8_grown (w : World) (q : Nat) (k : Int) (s : Nat → Int) (lo hi : Int) (v : Value) : w.grownBy (put8 w q k s lo hi v) (some q) :=
  grownBy_trans (grownBy_trans (grownBy_trans (grownBy_trans (grownBy_trans (grownBy_trans (grownBy_trans (setCell_grown _ q _ _) (setCell_grown _ q _ _)) (setCell_grown _ q _ _)) (setCell_grown _ q _ _)) (setCell_grown _ q _ _)) (setCell_grown _ q _ _)) (setCell_grown _ q _ _)) (setCell_grown _ q _ _)
set_option maxRecDepth 100000 in
theorem put8_size (w : World) (q : Nat) (k : Int) (s : Nat → Int) (lo hi : Int) (v : Value) : (put8 w q k s lo hi v).heap.size = w.heap.size := by simp
set_option maxRecDepth 100000 in
/-- A right pattern stays while the result's box is written. -/
theorem Lives.put8 {w : World} {q : Nat} {t : Tr} {lv : Nat} (hq : w.heap[q]? = some (.cells (row8 0 z0 0 0 (.slice none 0 0)) 28 (0, 0))) (ht : okT t lv = true) (hL : Lives w w.heap.size t) (k : Int) (s : Nat → Int) (lo hi : Int) (v : Value) :
    Lives (put8 w q k s lo hi v) (put8 w q k s lo hi v).heap.size t := by
  rw [put8_size]
  exact Lives.off (fun g o u h8 hf => at8_box hq (by omega) (by omega) h8 hf) (put8_grown w q k s lo hi v) (fit_of_ok ht) hL
set_option maxRecDepth 100000 in
theorem pair_lives {w : World} {B : Nat} {t u : Tr} (h : Lives w B t) (h' : Lives w B u) : ∀ i, i < 2 → Lives w B (pair t u i) := fun i _ => by unfold pair; split <;> assumption
set_option maxRecDepth 100000 in
theorem pair_n {t u : Tr} {N : Nat} (h : cnt t ≤ N) (h' : cnt u ≤ N) : ∀ i, i < 2 → (pair t u i).n ≤ N := fun i _ => by
  have := n_le_cnt t
  have := n_le_cnt u
  unfold pair; split <;> omega
set_option maxRecDepth 100000 in
theorem pair_0 {kind : Int} (hk : kind = 3 ∨ kind = 4) {t u : Tr} {lv : Nat} (h : okT t lv = true) (h' : okT u lv = true) : ∀ i, i < 2 → (pair t u i).k = kind → 0 < (pair t u i).n := fun i _ => by
  unfold pair
  split
  · rintro rfl; have := (fits_many_ne (okT_kid h).1 hk).1; omega
  · rintro rfl; have := (fits_many_ne (okT_kid h').1 hk).1; omega
set_option maxRecDepth 100000 in
theorem rep_fin {w w5 : World} {p q x : Nat} {a : Option Addr} {n cap : Nat} {F : Nat → Int} {A lv : Nat} {lo hi : Int} {t : Tr} (hM : Mk w5 p a n cap F A) (hG : w.grownBy w5 (some p)) (hR : w5.heap[q]? = some (.cells (row8 0 z0 0 0 (.slice none 0 0)) 28 (0, 0))) (hX : w5.heap[x]? = some (.cells (row8 5 z0 lo hi (.slice none 0 0)) 28 (0, 0)))
    (hpx : p < x) (hqx : q ≠ x) (hwx : w.heap.size ≤ x) (ot : okT t lv = true) (lt : Lives w5 w5.heap.size t) {w6 : World} (h6 : w6 = (w5.alloc (.cells (row8 t.k t.s t.lo t.hi (.slice t.a t.n t.cap)) 28)).setCell ⟨x, 7, none⟩ (.slice (some ⟨w5.heap.size, 0, none⟩) 1 1)) :
    Mk w6 p a n cap F A ∧ w.grownBy w6 (some p) ∧ w6.heap[q]? = some (.cells (row8 0 z0 0 0 (.slice none 0 0)) 28 (0, 0)) ∧ w6.heap[x]? = some (.cells (row8 5 z0 lo hi (.slice (some ⟨w5.heap.size, 0, none⟩) 1 1)) 28 (0, 0)) ∧
      w6.heap[w5.heap.size]? = some (.cells (row8 t.k t.s t.lo t.hi (.slice t.a t.n t.cap)) 28 (0, 0)) ∧ Lives w6 w6.heap.size t := by
  have hxl := (Array.getElem?_eq_some_iff.1 hX).1
  have hql := (Array.getElem?_eq_some_iff.1 hR).1
  have hb0 := alloc_below w5 (.cells (row8 t.k t.s t.lo t.hi (.slice t.a t.n t.cap)) 28)
  have hb : Below x w5 w6 := by rw [h6]; exact (hb0.mono (Nat.le_of_lt hxl)).setCell (Nat.le_refl _) _
  have hXa := (hb0.block _ hxl).trans hX
  have hG6 : (w5.alloc (.cells (row8 t.k t.s t.lo t.hi (.slice t.a t.n t.cap)) 28)).grownBy w6 (some x) := by rw [h6]; exact setCell_grown _ x 7 _
  refine ⟨hM.belowB hpx hb, grown_then hG (hb.mono hwx), ?_, ?_, ?_, ?_⟩
  · exact (hG6.block _ (by simp; omega) (by simp; omega)).trans ((hb0.block _ hql).trans hR)
  · rw [h6, heap_setCell_same _ x 7 _ _ _ hXa]; simp
  · exact (hG6.block _ (by simp) (by simp; omega)).trans (heap_alloc_new _ _)
  · exact (Lives.off (fun g o u h8 hf => at8_box hXa (by omega) (by omega) h8 hf) hG6 (fit_of_ok ot) (lt.now hb0)).mono hG6.size
set_option maxRecDepth 100000 in
theorem keepX {w w1 : World} {x : Nat} {lo hi : Int} {p : Nat} (h : w.heap[x]? = some (.cells (row8 5 z0 lo hi (.slice none 0 0)) 28 (0, 0))) (hG : w.grownBy w1 (some p)) (hx : p < x) : w1.cell? ⟨x, 5, none⟩ = some (.int .i64 lo) ∧ w1.cell? ⟨x, 6, none⟩ = some (.int .i64 hi) ∧ w1.frozen? ⟨x, 6, none⟩ = false ∧ w1.heap[x]? = some (.cells (row8 5 z0 lo hi (.slice none 0 0)) 28 (0, 0)) := by
  have h' := (hG.block x (Array.getElem?_eq_some_iff.1 h).1 (by simp; omega)).trans h
  exact ⟨cell_of_row w1 x 5 _ _ _ h', cell_of_row w1 x 6 _ _ _ h', frozen_of_row _ _ 6 _ _ h', h'⟩
set_option maxRecDepth 100000 in
theorem set6 {w : World} {x : Nat} {lo hi : Int} (v : Int) (h : w.heap[x]? = some (.cells (row8 5 z0 lo hi (.slice none 0 0)) 28 (0, 0))) : (w.setCell ⟨x, 6, none⟩ (.int .i64 v)).heap[x]? = some (.cells (row8 5 z0 lo v (.slice none 0 0)) 28 (0, 0)) := by
  rw [heap_setCell_same _ x 6 _ _ _ h]; simp
end Go.Proofs.YtnfchlkdppblfaaDoor
