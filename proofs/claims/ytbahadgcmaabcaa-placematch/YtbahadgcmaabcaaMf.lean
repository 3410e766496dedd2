/- What the maker's Rx keeps; the patterns that it makes. -/
import Derived.Test.YtbahadgcmaabcaaMd
import Derived.Deep.Cut
namespace Go.Proofs.Ytbahadgcmaabcaa
open Go.RowKit
set_option maxRecDepth 100000 in
theorem mk_drew {w : World} {p : Nat} {a : Option Addr} {n cap : Nat} {F : Nat → Int} {A : Nat} (h : Mk w p a n cap F A) : Mk w.drew p a n cap F A := ⟨h.box, h.row⟩
set_option maxRecDepth 100000 in
theorem at8_ne {w : World} {p : Nat} {a : Option Addr} {n cap : Nat} {F : Nat → Int} {A : Nat} (h : Mk w p a n cap F A) {g o : Nat} {t : Tr} (h8 : At8 w g o t) : g ≠ p := by
  rintro rfl
  have h2 := h8.2.2.1
  rw [show o + 2 = 2 + o by omega, cell_of_row w g (2 + o) _ _ _ h.box] at h2
  simp at h2
set_option maxRecDepth 100000 in
/-- The maker's own steps do not touch a pattern. -/
theorem Lives.grown {w w' : World} {p : Nat} {a : Option Addr} {n cap : Nat} {F : Nat → Int} {A : Nat} (hM : Mk w p a n cap F A) (hG : w.grownBy w' (some p)) {B : Nat} (hB : B ≤ w.heap.size) : ∀ {t : Tr}, Lives w B t → Lives w' B t
  | .node _ _ _ _ _ m _ kid, ⟨hs, h1, h2, hc, hk⟩ => ⟨hs, h1, h2, fun hp => by
      obtain ⟨g, off, ha, hg, hc⟩ := hc hp
      refine ⟨g, off, ha, hg, fun i hi => ?_⟩
      have hne : g ≠ p := at8_ne hM (hc i hi)
      have hkeep : ∀ {c : Nat} {v : Value}, w.cell? ⟨g, c, none⟩ = some v → w'.cell? ⟨g, c, none⟩ = some v := fun h => hG.cell h (by simp; omega)
      obtain ⟨c0, c1, c2, c3, c4, c5, c6, c7⟩ := hc i hi
      exact ⟨hkeep c0, hkeep c1, hkeep c2, hkeep c3, hkeep c4, hkeep c5, hkeep c6, hkeep c7⟩, fun i hi => Lives.grown hM hG hB (t := kid i) (hk i hi)⟩
  | .nul, h => False.elim h
/-- What Rx gives back. -/
def RxI (w : World) (p : Nat) (a : Option Addr) (n cap : Nat) (F : Nat → Int) (A D : Nat) (e : Ending) (w' : World) : Prop :=
  ∃ t : Tr, e = .returned (nodeV t.k t.s t.lo t.hi (.slice t.a t.n t.cap)) ∧ okT t (D + 1) = true ∧ (cnt t + 1 ≤ 2 * 2 ^ D ∧ sml t) ∧ Lives w' w'.heap.size t ∧ ∃ A', A' + 1 ≤ A + 4 * 2 ^ D ∧ Mk w' p a n cap F A' ∧ w.grownBy w' (some p)
set_option maxRecDepth 100000 in
theorem pow_pos2 (D : Nat) : 1 ≤ 2 ^ D := Nat.one_le_two_pow
abbrev rowTwo (t u : Tr) : Array Value := #[.int .i64 t.k, .int .u64 (t.s 0), .int .u64 (t.s 1), .int .u64 (t.s 2), .int .u64 (t.s 3), .int .i64 t.lo, .int .i64 t.hi, .slice t.a t.n t.cap, .int .i64 u.k, .int .u64 (u.s 0), .int .u64 (u.s 1), .int .u64 (u.s 2), .int .u64 (u.s 3), .int .i64 u.lo, .int .i64 u.hi, .slice u.a u.n u.cap]
def pair (t u : Tr) (i : Nat) : Tr := if i = 0 then t else u
set_option maxRecDepth 100000 in
theorem two_at {w : World} {g : Nat} {t u : Tr} (h : w.heap[g]? = some (.cells (rowTwo t u) 27 (0, 0))) : ∀ i, i < 2 → At8 w g (0 + i * 8) (pair t u i) := by
  intro i hi
  match i, hi with
  | 0, _ => exact ⟨cell_of_row w g 0 _ _ _ h, cell_of_row w g 1 _ _ _ h, cell_of_row w g 2 _ _ _ h, cell_of_row w g 3 _ _ _ h, cell_of_row w g 4 _ _ _ h, cell_of_row w g 5 _ _ _ h, cell_of_row w g 6 _ _ _ h, cell_of_row w g 7 _ _ _ h⟩
  | 1, _ => exact ⟨cell_of_row w g 8 _ _ _ h, cell_of_row w g 9 _ _ _ h, cell_of_row w g 10 _ _ _ h, cell_of_row w g 11 _ _ _ h, cell_of_row w g 12 _ _ _ h, cell_of_row w g 13 _ _ _ h, cell_of_row w g 14 _ _ _ h, cell_of_row w g 15 _ _ _ h⟩
set_option maxRecDepth 100000 in
theorem n_le_cnt (t : Tr) : t.n ≤ cnt t := by
  cases t with
  | nul => simp [Tr.n]
  | node k s lo hi a n cap kid => have := sumTo_ge (f := fun i => cnt (kid i)) (fun i => cnt_pos _) n; simp only [cnt, Tr.n]; omega
set_option maxRecDepth 100000 in
theorem join_two (kind : Int) (t u : Tr) : joinTo kind (pair t u) 2 = partL kind t ++ partL kind u := by simp [joinTo, pair]
set_option maxRecDepth 100000 in
/-- Two patterns joined: what is known of the whole. -/
theorem join_ok {kind : Int} (hk : kind = 3 ∨ kind = 4) {t u : Tr} {D : Nat} (ht : okT t (D + 1) = true) (hu : okT u (D + 1) = true) (ct : cnt t + 1 ≤ 2 * 2 ^ D) (cu : cnt u + 1 ≤ 2 * 2 ^ D) (a : Option Addr) (cap : Nat) :
    okT (rowT kind a cap (joinTo kind (pair t u) 2)) (D + 1 + 1) = true ∧ cnt (rowT kind a cap (joinTo kind (pair t u) 2)) + 1 ≤ 2 * 2 ^ (D + 1) ∧ 2 ≤ (joinTo kind (pair t u) 2).length := by
  obtain ⟨t1, t2, t3⟩ := part_ok hk ht
  obtain ⟨u1, u2, u3⟩ := part_ok hk hu
  rw [rowT_cnt, join_two, cntL_append, List.length_append]
  refine ⟨rowT_ok hk (by rw [List.length_append]; omega) fun x hx => ?_, by rw [Nat.pow_succ]; omega, by omega⟩
  rcases List.mem_append.1 hx with q | q
  · exact t3 x q
  · exact u3 x q
set_option maxRecDepth 100000 in
theorem part_sml {kind : Int} {t : Tr} (h : sml t) : ∀ u ∈ partL kind t, sml u := by
  unfold partL
  split
  · intro u hu
    obtain ⟨i, hi, rfl⟩ := kidsL_mem hu
    exact sml_kid h hi
  · intro u hu
    rw [List.mem_singleton] at hu
    subst hu
    exact h
set_option maxRecDepth 100000 in
theorem join_sml {kind : Int} {a : Option Addr} {cap : Nat} {t u : Tr} (ht : sml t) (hu : sml u) : sml (rowT kind a cap (joinTo kind (pair t u) 2)) := by
  refine ⟨runs_z0, fun i hi => ?_⟩
  show sml ((joinTo kind (pair t u) 2).getD i .nul)
  have hm : ∀ x ∈ joinTo kind (pair t u) 2, sml x := fun x hx => by
    rw [join_two] at hx
    rcases List.mem_append.1 hx with q | q
    · exact part_sml ht _ q
    · exact part_sml hu _ q
  rw [List.getD_eq_getElem?_getD, List.getElem?_eq_getElem hi]
  exact hm _ (List.getElem_mem hi)
set_option maxRecDepth 100000 in
/-- The joined pattern lies in memory, and the maker with it. -/
theorem join_all {kind : Int} (hk : kind = 3 ∨ kind = 4) {t u : Tr} {D : Nat} (ht : okT t (D + 1) = true) (hu : okT u (D + 1) = true) (ct : cnt t + 1 ≤ 2 * 2 ^ D ∧ sml t) (cu : cnt u + 1 ≤ 2 * 2 ^ D ∧ sml u) {w' : World} {B0 : Nat} {v : Value}
    (lt : Lives w' w'.heap.size t) (lu : Lives w' w'.heap.size u) (hO : w'.ownsRow B0 27 8 v (joinTo kind (pair t u) 2).length (flatT (joinTo kind (pair t u) 2))) :
    ∃ x : Tr, nodeV kind z0 0 0 v = nodeV x.k x.s x.lo x.hi (.slice x.a x.n x.cap) ∧ okT x (D + 1 + 1) = true ∧ (cnt x + 1 ≤ 2 * 2 ^ (D + 1) ∧ sml x) ∧ Lives w' w'.heap.size x := by
  have h2 := (join_ok hk ht hu ct.1 cu.1 none 0).2.2
  obtain ⟨g, cap, rfl, _, _, hl⟩ := rowT_lives kind hO (by omega) (B := w'.heap.size) (fun x hx => by
    rw [join_two] at hx
    rcases List.mem_append.1 hx with q | q
    · exact part_lives lt x q
    · exact part_lives lu x q) (Nat.le_refl _)
  obtain ⟨o1, o2, _⟩ := join_ok hk ht hu ct.1 cu.1 (some ⟨g, 0, none⟩) cap
  exact ⟨_, rfl, o1, ⟨o2, join_sml ct.2 cu.2⟩, hl⟩
/-- A repeated pattern. -/
def repX (lo hi : Int) (g : Nat) (t : Tr) : Tr := .node 5 z0 lo hi (some ⟨g, 0, none⟩) 1 1 fun _ => t
set_option maxRecDepth 100000 in
theorem rep_all {lo hi : Int} (hc : countsB lo hi = true) {t : Tr} {D : Nat} (ht : okT t (D + 1) = true) (ct : cnt t + 1 ≤ 2 * 2 ^ D ∧ sml t) {w : World} {g : Nat} (lt : Lives w w.heap.size t) (hg : w.heap[g]? = some (.cells (row8 t.k t.s t.lo t.hi (.slice t.a t.n t.cap)) 27 (0, 0))) :
    okT (repX lo hi g t) (D + 1 + 1) = true ∧ (cnt (repX lo hi g t) + 1 ≤ 2 * 2 ^ (D + 1) ∧ sml (repX lo hi g t)) ∧ Lives w w.heap.size (repX lo hi g t) := by
  have hf : fitsB (repX lo hi g t) = true := by simp [fitsB, repX, Tr.k, Tr.s, Tr.lo, Tr.hi, Tr.n, hc, plainB, eq_z0]
  refine ⟨?_, ⟨?_, runs_z0, fun _ _ => ct.2⟩, wf_z0, Nat.le_refl _, by unfold maxLen; omega, fun _ => ⟨g, 0, rfl, (Array.getElem?_eq_some_iff.1 hg).1, fun i hi => ?_⟩, fun i hi => lt⟩
  · unfold repX at hf ⊢
    simp only [okT, hf, Bool.and_eq_true, decide_eq_true_eq]
    exact ⟨by omega, trivial, allTo_iff.2 fun i hi => ht⟩
  · rw [Nat.pow_succ]
    have := cnt_pos t
    simp only [repX, cnt, sumTo]
    omega
  · obtain rfl : i = 0 := by omega
    exact cell8 hg
set_option maxRecDepth 100000 in
/-- A box that holds no right pattern is none of a right pattern's. -/
theorem at8_box {w : World} {q : Nat} {k0 lo0 hi0 : Int} {s0 : Nat → Int} {a0 : Option Addr} {c0 : Nat} (h : w.heap[q]? = some (.cells (row8 k0 s0 lo0 hi0 (.slice a0 0 c0)) 27 (0, 0))) (h1 : k0 ≠ 1) (h2 : k0 ≠ 2) {g o : Nat} {u : Tr} (h8 : At8 w g o u) (hf : fitsB u = true) : g ≠ q := by
  rintro rfl
  have e7 := h8.2.2.2.2.2.2.2
  have e0 := h8.1
  rw [cell_of_row w g _ _ _ _ h] at e7 e0
  have ho : o = 0 := by
    rcases Nat.eq_zero_or_pos o with q | q
    · exact q
    · rw [Array.getElem?_eq_none (by simp; omega)] at e7; cases e7
  subst ho
  simp at e0 e7
  rcases fits_cases hf with ⟨q, _⟩ | ⟨q, _⟩ | ⟨_, q⟩ | ⟨_, q, _⟩ <;> omega
set_option maxRecDepth 100000 in
theorem Lives.off {w w' : World} {q : Nat} (hq : ∀ g o u, At8 w g o u → fitsB u = true → g ≠ q) (hG : w.grownBy w' (some q)) {B : Nat} : ∀ {t : Tr}, fitT t = true → Lives w B t → Lives w' B t
  | .node k s lo hi a m cap kid, hf, ⟨hs, h1, h2, hc, hk⟩ => ⟨hs, h1, h2, fun hp => by
      obtain ⟨g, off, ha, hg, hc⟩ := hc hp
      refine ⟨g, off, ha, hg, fun i hi' => ?_⟩
      have hne : g ≠ q := hq _ _ _ (hc i hi') (fitT_fits (fitT_kid hf (i := i) hi'))
      have hkeep : ∀ {c : Nat} {v : Value}, w.cell? ⟨g, c, none⟩ = some v → w'.cell? ⟨g, c, none⟩ = some v := fun h => hG.cell h (by simp; omega)
      obtain ⟨c0, c1, c2, c3, c4, c5, c6, c7⟩ := hc i hi'
      exact ⟨hkeep c0, hkeep c1, hkeep c2, hkeep c3, hkeep c4, hkeep c5, hkeep c6, hkeep c7⟩, fun i hi' => Lives.off hq hG (t := kid i) (fitT_kid hf (i := i) hi') (hk i hi')⟩
  | .nul, _, h => False.elim h
set_option maxRecDepth 100000 in
theorem setCell_grown (w : World) (q c : Nat) (v : Value) : w.grownBy (w.setCell ⟨q, c, none⟩ v) (some q) := ⟨rfl, rfl, rfl, by simp, fun k _ hk => Below.heap_setCell _ _ _ _ fun e => hk (by rw [e])⟩
set_option maxRecDepth 100000 in
theorem put8_grown (w : World) (q : Nat) (k : Int) (s : Nat → Int) (lo hi : Int) (v : Value) : w.grownBy (put8 w q k s lo hi v) (some q) :=
  grownBy_trans (grownBy_trans (grownBy_trans (grownBy_trans (grownBy_trans (grownBy_trans (grownBy_trans (setCell_grown _ q _ _) (setCell_grown _ q _ _)) (setCell_grown _ q _ _)) (setCell_grown _ q _ _)) (setCell_grown _ q _ _)) (setCell_grown _ q _ _)) (setCell_grown _ q _ _)) (setCell_grown _ q _ _)
set_option maxRecDepth 100000 in
theorem put8_size (w : World) (q : Nat) (k : Int) (s : Nat → Int) (lo hi : Int) (v : Value) : (put8 w q k s lo hi v).heap.size = w.heap.size := by simp
set_option maxRecDepth 100000 in
/-- A right pattern stays while the result's box is written. -/
theorem Lives.put8 {w : World} {q : Nat} {t : Tr} {lv : Nat} (hq : w.heap[q]? = some (.cells (row8 0 z0 0 0 (.slice none 0 0)) 27 (0, 0))) (ht : okT t lv = true) (hL : Lives w w.heap.size t) (k : Int) (s : Nat → Int) (lo hi : Int) (v : Value) :
    Lives (put8 w q k s lo hi v) (put8 w q k s lo hi v).heap.size t := by
  rw [put8_size]
  exact Lives.off (fun g o u h8 hf => at8_box hq (by omega) (by omega) h8 hf) (put8_grown w q k s lo hi v) (fit_of_ok ht) hL
set_option maxRecDepth 100000 in
theorem pair_lives {w : World} {B : Nat} {t u : Tr} (h : Lives w B t) (h' : Lives w B u) : ∀ i, i < 2 → Lives w B (pair t u i) := fun i _ => by unfold pair; split <;> assumption
set_option maxRecDepth 100000 in
theorem pair_n {t u : Tr} {N : Nat} (h : cnt t ≤ N) (h' : cnt u ≤ N) : ∀ i, i < 2 → (pair t u i).n ≤ N := fun i _ => by
  have := n_le_cnt t
  have := n_le_cnt u
  unfold pair; split <;> omega
set_option maxRecDepth 100000 in
theorem pair_0 {kind : Int} (hk : kind = 3 ∨ kind = 4) {t u : Tr} {lv : Nat} (h : okT t lv = true) (h' : okT u lv = true) : ∀ i, i < 2 → (pair t u i).k = kind → 0 < (pair t u i).n := fun i _ => by
  unfold pair
  split
  · rintro rfl; have := (fits_many_ne (okT_kid h).1 hk).1; omega
  · rintro rfl; have := (fits_many_ne (okT_kid h').1 hk).1; omega
set_option maxRecDepth 100000 in
theorem rep_fin {w w5 : World} {p q x : Nat} {a : Option Addr} {n cap : Nat} {F : Nat → Int} {A lv : Nat} {lo hi : Int} {t : Tr} (hM : Mk w5 p a n cap F A) (hG : w.grownBy w5 (some p)) (hR : w5.heap[q]? = some (.cells (row8 0 z0 0 0 (.slice none 0 0)) 27 (0, 0))) (hX : w5.heap[x]? = some (.cells (row8 5 z0 lo hi (.slice none 0 0)) 27 (0, 0)))
    (hpx : p < x) (hqx : q ≠ x) (hwx : w.heap.size ≤ x) (ot : okT t lv = true) (lt : Lives w5 w5.heap.size t) {w6 : World} (h6 : w6 = (w5.alloc (.cells (row8 t.k t.s t.lo t.hi (.slice t.a t.n t.cap)) 27)).setCell ⟨x, 7, none⟩ (.slice (some ⟨w5.heap.size, 0, none⟩) 1 1)) :
    Mk w6 p a n cap F A ∧ w.grownBy w6 (some p) ∧ w6.heap[q]? = some (.cells (row8 0 z0 0 0 (.slice none 0 0)) 27 (0, 0)) ∧ w6.heap[x]? = some (.cells (row8 5 z0 lo hi (.slice (some ⟨w5.heap.size, 0, none⟩) 1 1)) 27 (0, 0)) ∧
      w6.heap[w5.heap.size]? = some (.cells (row8 t.k t.s t.lo t.hi (.slice t.a t.n t.cap)) 27 (0, 0)) ∧ Lives w6 w6.heap.size t := by
  have hxl := (Array.getElem?_eq_some_iff.1 hX).1
  have hql := (Array.getElem?_eq_some_iff.1 hR).1
  have hb0 := alloc_below w5 (.cells (row8 t.k t.s t.lo t.hi (.slice t.a t.n t.cap)) 27)
  have hb : Below x w5 w6 := by rw [h6]; exact (hb0.mono (Nat.le_of_lt hxl)).setCell (Nat.le_refl _) _
  have hXa := (hb0.block _ hxl).trans hX
  have hG6 : (w5.alloc (.cells (row8 t.k t.s t.lo t.hi (.slice t.a t.n t.cap)) 27)).grownBy w6 (some x) := by rw [h6]; exact setCell_grown _ x 7 _
  refine ⟨hM.belowB hpx hb, grown_then hG (hb.mono hwx), ?_, ?_, ?_, ?_⟩
  · exact (hG6.block _ (by simp; omega) (by simp; omega)).trans ((hb0.block _ hql).trans hR)
  · rw [h6, heap_setCell_same _ x 7 _ _ _ hXa]; simp
  · exact (hG6.block _ (by simp) (by simp; omega)).trans (heap_alloc_new _ _)
  · exact (Lives.off (fun g o u h8 hf => at8_box hXa (by omega) (by omega) h8 hf) hG6 (fit_of_ok ot) (lt.now hb0)).mono hG6.size
set_option maxRecDepth 100000 in
theorem keepX {w w1 : World} {x : Nat} {lo hi : Int} {p : Nat} (h : w.heap[x]? = some (.cells (row8 5 z0 lo hi (.slice none 0 0)) 27 (0, 0))) (hG : w.grownBy w1 (some p)) (hx : p < x) : w1.cell? ⟨x, 5, none⟩ = some (.int .i64 lo) ∧ w1.cell? ⟨x, 6, none⟩ = some (.int .i64 hi) ∧ w1.frozen? ⟨x, 6, none⟩ = false ∧ w1.heap[x]? = some (.cells (row8 5 z0 lo hi (.slice none 0 0)) 27 (0, 0)) := by
  have h' := (hG.block x (Array.getElem?_eq_some_iff.1 h).1 (by simp; omega)).trans h
  exact ⟨cell_of_row w1 x 5 _ _ _ h', cell_of_row w1 x 6 _ _ _ h', frozen_of_row _ _ 6 _ _ h', h'⟩
set_option maxRecDepth 100000 in
theorem set6 {w : World} {x : Nat} {lo hi : Int} (v : Int) (h : w.heap[x]? = some (.cells (row8 5 z0 lo hi (.slice none 0 0)) 27 (0, 0))) : (w.setCell ⟨x, 6, none⟩ (.int .i64 v)).heap[x]? = some (.cells (row8 5 z0 lo v (.slice none 0 0)) 27 (0, 0)) := by
  rw [heap_setCell_same _ x 6 _ _ _ h]; simp
end Go.Proofs.Ytbahadgcmaabcaa
/- The maker's Rx. -/
namespace Go.Proofs.Ytbahadgcmaabcaa
open Go.RowKit
set_option maxRecDepth 100000 in
theorem grown_alloc_box {w w1 : World} {o : Obj} {p : Nat} (h : w.grownBy w1 (some p)) : w.grownBy (w1.alloc o) (some p) := grownBy_trans h (World.grownBy_alloc _ _ _)
set_option maxRecDepth 100000 in
set_option maxHeartbeats 8000000 in
theorem mrx_any : ∀ (D : Nat) (deep : Int) (w : World) (p : Nat) (a : Option Addr) (n cap : Nat) (F : Nat → Int) (A : Nat), D ≤ 5 → -1 ≤ deep → deep ≤ (D : Int) → Mk w p a n cap F A → (∀ i, 0 ≤ F i ∧ F i < 256) → n ≤ 30 → A + 4 * 2 ^ D ≤ 800 →
    Calls Try.prog 23 #[.pointer (some ⟨p, 0, none⟩), .int .i64 deep] w (RxI w p a n cap F A D) := by
  intro D
  induction D with
  | zero =>
    intro deep w p a n cap F A hD hd0 hd1 h hF hn hA
    have HF := Lib.hid hF
    have hpq := h.lt
    have i1 : deep < 1 := by omega
    have e1 : decide (deep < 1) = true := by simp [i1]
    go_enter Try.func23, Try.ntmps23
    go_wp2_with fail
    refine (pick_any 8 (by omega) (by omega) _ p a n cap F A (h.below (alloc_below w _)) hF hn (by omega)).mono ?_
    rintro e w1 ⟨r, rfl, hr0, hr8, hM1, hG1⟩
    obtain ⟨hR1, hG1⟩ := box_grown hpq hG1
    clear h hF
    have HM1 := Lib.hid hM1
    have HG1 := Lib.hid hG1
    have HR1 := Lib.hid hR1
    have dAt := cell_of_row _ p 1 _ _ _ hM1.box
    have dL := cell_of_row _ p 0 _ _ _ hM1.box
    simp at dAt dL
    clear hM1 hG1 hR1
    have hq : w.heap.size < w1.heap.size := (Array.getElem?_eq_some_iff.1 HR1.out).1
    obtain ⟨q, hqq⟩ : ∃ q, q = w.heap.size := ⟨_, rfl⟩
    have hqs : w.heap.size ≤ q := by omega
    rw [← hqq] at HR1 hpq hq ⊢
    clear hqq
    go_wp2_with fail
    go_quiet (fail)
    go_wp2_with fail
    refine (leaf_any _ p a n cap F (A + 1) (mk_drewN HM1.out _) HF.out hn (by omega)).mono ?_
    rintro e w2 ⟨k, s, rfl, hlf, A', hA', hM2, hG2⟩
    have HR2 := Lib.hid (box_on (w := World.drewN w1 _) HR1.out (by omega) hG2)
    have HG2 := Lib.hid (grownBy_trans (grown_drewN HG1.out _) hG2)
    have HM2 := Lib.hid hM2
    clear hM2 hG2 HM1 HG1 HR1 dAt dL
    obtain ⟨f0, f1, f2, f3, f4, f5, f6, f7⟩ := frozen8 (s := z0) HR2.out
    obtain ⟨d0, d1, d2, d3, d4, d5, d6, d7⟩ := cell8 (s := z0) HR2.out
    have HX := Lib.hid (fin8 (s := s) (z := z0) HM2.out HG2.out hpq hqs HR2.out k 0 0 (.slice none 0 0))
    go_wp2
    exact bodyPost_ret (v := nodeV k s 0 0 (.slice none 0 0)) (ret8 Try.results23 rfl HX.out.1) rfl ⟨lfT k s, rfl, okT_mono (lf_ok hlf).1 (by omega), ⟨by rw [(lf_ok hlf).2.1]; omega, lf_sml hlf⟩, (lf_ok hlf).2.2 _ _, A', by omega, HX.out.2.1, HX.out.2.2⟩
  | succ D ih =>
    intro deep w p a n cap F A hD hd0 hd1 h hF hn hA
    have HF := Lib.hid hF
    have IH := Lib.hid ih
    clear ih
    have hpq := h.lt
    have hpw : 2 ^ (D + 1) = 2 * 2 ^ D := by rw [Nat.pow_succ]; omega
    have hp1 : 1 ≤ 2 ^ D := pow_pos2 D
    go_enter Try.func23, Try.ntmps23
    go_wp2_with fail
    refine (pick_any 8 (by omega) (by omega) _ p a n cap F A (h.below (alloc_below w _)) hF hn (by omega)).mono ?_
    rintro e w1 ⟨r, rfl, hr0, hr8, hM1, hG1⟩
    obtain ⟨hR1, hG1⟩ := box_grown hpq hG1
    clear h hF
    have HM1 := Lib.hid hM1
    have HG1 := Lib.hid hG1
    have HR1 := Lib.hid hR1
    have dAt := cell_of_row _ p 1 _ _ _ hM1.box
    have dL := cell_of_row _ p 0 _ _ _ hM1.box
    simp at dAt dL
    clear hM1 hG1 hR1
    have hq : w.heap.size < w1.heap.size := (Array.getElem?_eq_some_iff.1 HR1.out).1
    obtain ⟨q, hqq⟩ : ∃ q, q = w.heap.size := ⟨_, rfl⟩
    have hqs : w.heap.size ≤ q := by omega
    rw [← hqq] at HR1 hpq hq ⊢
    clear hqq
    by_cases i1 : deep < 1
    · have e1 : decide (deep < 1) = true := by simp [i1]
      go_wp2_with fail
      go_quiet (fail)
      go_wp2_with fail
      refine (leaf_any _ p a n cap F (A + 1) (mk_drewN HM1.out _) HF.out hn (by omega)).mono ?_
      rintro e w2 ⟨k, s, rfl, hlf, A', hA', hM2, hG2⟩
      have HR2 := Lib.hid (box_on (w := World.drewN w1 _) HR1.out (by omega) hG2)
      have HG2 := Lib.hid (grownBy_trans (grown_drewN HG1.out _) hG2)
      have HM2 := Lib.hid hM2
      clear hM2 hG2 HM1 HG1 HR1 dAt dL
      obtain ⟨f0, f1, f2, f3, f4, f5, f6, f7⟩ := frozen8 (s := z0) HR2.out
      obtain ⟨d0, d1, d2, d3, d4, d5, d6, d7⟩ := cell8 (s := z0) HR2.out
      have HX := Lib.hid (fin8 (s := s) (z := z0) HM2.out HG2.out hpq hqs HR2.out k 0 0 (.slice none 0 0))
      go_wp2
      exact bodyPost_ret (v := nodeV k s 0 0 (.slice none 0 0)) (ret8 Try.results23 rfl HX.out.1) rfl ⟨lfT k s, rfl, okT_mono (lf_ok hlf).1 (by omega), ⟨by rw [(lf_ok hlf).2.1]; omega, lf_sml hlf⟩, (lf_ok hlf).2.2 _ _, A', by omega, HX.out.2.1, HX.out.2.2⟩
    have e1 : decide (deep < 1) = false := by simp; omega
    by_cases i2 : r < 2
    · have e2 : decide (r < 2) = true := by simp [i2]
      go_wp2_with fail
      go_quiet (fail)
      go_wp2_with fail
      refine (leaf_any _ p a n cap F (A + 1) (mk_drewN HM1.out _) HF.out hn (by omega)).mono ?_
      rintro e w2 ⟨k, s, rfl, hlf, A', hA', hM2, hG2⟩
      have HR2 := Lib.hid (box_on (w := World.drewN w1 _) HR1.out (by omega) hG2)
      have HG2 := Lib.hid (grownBy_trans (grown_drewN HG1.out _) hG2)
      have HM2 := Lib.hid hM2
      clear hM2 hG2 HM1 HG1 HR1 dAt dL
      obtain ⟨f0, f1, f2, f3, f4, f5, f6, f7⟩ := frozen8 (s := z0) HR2.out
      obtain ⟨d0, d1, d2, d3, d4, d5, d6, d7⟩ := cell8 (s := z0) HR2.out
      have HX := Lib.hid (fin8 (s := s) (z := z0) HM2.out HG2.out hpq hqs HR2.out k 0 0 (.slice none 0 0))
      go_wp2
      exact bodyPost_ret (v := nodeV k s 0 0 (.slice none 0 0)) (ret8 Try.results23 rfl HX.out.1) rfl ⟨lfT k s, rfl, okT_mono (lf_ok hlf).1 (by omega), ⟨by rw [(lf_ok hlf).2.1]; omega, lf_sml hlf⟩, (lf_ok hlf).2.2 _ _, A', by omega, HX.out.2.1, HX.out.2.2⟩
    have e2 : decide (r < 2) = false := by simp; omega
    by_cases i3 : (n : Int) ≤ (A : Int) + 1
    · have e3 : decide ((n : Int) ≤ (A : Int) + 1) = true := by simp [i3]
      go_wp2_with fail
      go_quiet (fail)
      go_wp2_with fail
      refine (leaf_any _ p a n cap F (A + 1) (mk_drewN HM1.out _) HF.out hn (by omega)).mono ?_
      rintro e w2 ⟨k, s, rfl, hlf, A', hA', hM2, hG2⟩
      have HR2 := Lib.hid (box_on (w := World.drewN w1 _) HR1.out (by omega) hG2)
      have HG2 := Lib.hid (grownBy_trans (grown_drewN HG1.out _) hG2)
      have HM2 := Lib.hid hM2
      clear hM2 hG2 HM1 HG1 HR1 dAt dL
      obtain ⟨f0, f1, f2, f3, f4, f5, f6, f7⟩ := frozen8 (s := z0) HR2.out
      obtain ⟨d0, d1, d2, d3, d4, d5, d6, d7⟩ := cell8 (s := z0) HR2.out
      have HX := Lib.hid (fin8 (s := s) (z := z0) HM2.out HG2.out hpq hqs HR2.out k 0 0 (.slice none 0 0))
      go_wp2
      exact bodyPost_ret (v := nodeV k s 0 0 (.slice none 0 0)) (ret8 Try.results23 rfl HX.out.1) rfl ⟨lfT k s, rfl, okT_mono (lf_ok hlf).1 (by omega), ⟨by rw [(lf_ok hlf).2.1]; omega, lf_sml hlf⟩, (lf_ok hlf).2.2 _ _, A', by omega, HX.out.2.1, HX.out.2.2⟩
    have e3 : decide ((n : Int) ≤ (A : Int) + 1) = false := by simp; omega
    go_wp2_with fail
    go_quiet (fail)
    have HM2 := Lib.hid (mk_drewN HM1.out nq)
    have HG2 := Lib.hid (grown_drewN HG1.out nq)
    have HR2 : Hid ((w1.drewN nq).heap[q]? = some (.cells (row8 0 z0 0 0 (.slice none 0 0)) 27 (0, 0))) := HR1
    have hq2 : q < (w1.drewN nq).heap.size := hq
    clear HM1 HG1 HR1 dAt dL e1 e2 e3 i3 hq
    generalize w1.drewN nq = wd at *
    have b1 : deep ≤ 5 := by omega
    have b0 : 1 ≤ deep := by omega
    by_cases i4 : r < 5
    · skip
      go_wp2_with fail
      refine (IH.out (deep - 1) wd p a n cap F (A + 1) (by omega) (by omega) (by omega) HM2.out HF.out hn (by omega)).mono ?_
      rintro e w2 ⟨t, rfl, ot, ct, lt, A2, hA2, hM3, hG3⟩
      have HR3 := Lib.hid (box_on HR2.out (by omega) hG3)
      have HG3 := Lib.hid (grownBy_trans HG2.out hG3)
      have HM3 := Lib.hid hM3
      have OT := Lib.hid ot
      have CT := Lib.hid ct
      have LT := Lib.hid lt
      clear hM3 hG3 HM2 HG2 HR2 ot ct lt
      go_wp2_with fail
      refine (IH.out (deep - 1) w2 p a n cap F A2 (by omega) (by omega) (by omega) HM3.out HF.out hn (by omega)).mono ?_
      rintro e w3 ⟨u, rfl, ou, cu, lu, A3, hA3, hM4, hG4⟩
      have HR4 := Lib.hid (box_on HR3.out (by omega) hG4)
      have HG4 := Lib.hid (grownBy_trans HG3.out hG4)
      have HM4 := Lib.hid hM4
      have OU := Lib.hid ou
      have CU := Lib.hid cu
      have LU := Lib.hid lu
      have LT4 := Lib.hid ((Lives.grown HM3.out hG4 (Nat.le_refl _) LT.out).mono hG4.size)
      clear hM4 hG4 HM3 HG3 HR3 ou cu lu LT
      go_wp2_with fail
      have hq4 : q < w3.heap.size := (Array.getElem?_eq_some_iff.1 HR4.out).1
      refine (joined_any 3 _ w3.heap.size 0 2 (pair t u) (by simp) (two_at (heap_alloc_new w3 (.cells (rowTwo t u) 27))) (pair_lives (LT4.out.now (alloc_below _ _)) (LU.out.now (alloc_below _ _))) (pair_n (by have := CT.out.1; omega) (by have := CU.out.1; omega)) (pair_0 (by omega) OT.out OU.out)).mono ?_
      rintro e w4 ⟨v, rfl, hO, hb4⟩
      have hb5 := (alloc_below w3 (.cells (rowTwo t u) 27)).trans (hb4.mono (by simp))
      have HR5 := Lib.hid ((hb5.block _ hq4).trans HR4.out)
      have HM5 := Lib.hid (HM4.out.below hb5)
      have HG5 := Lib.hid (grownBy_trans HG4.out (grown_of_below hb5 (some p)))
      obtain ⟨x, hx, ox, cx, lx⟩ := join_all (kind := 3) (by omega) OT.out OU.out CT.out CU.out (LT4.out.now hb5) (LU.out.now hb5) hO
      obtain ⟨av, cv, rfl⟩ := row_slice hO
      generalize (joinTo 3 (pair t u) 2).length = nn at *
      have HX5 := Lib.hid (fin8 (s := z0) (z := z0) HM5.out HG5.out hpq hqs HR5.out 3 0 0 (.slice av nn cv))
      have HLX := Lib.hid (Lives.put8 HR5.out ox lx 3 z0 0 0 (.slice av nn cv))
      have HEQ := Lib.hid hx
      have HOX := Lib.hid (And.intro ox cx)
      obtain ⟨f0, f1, f2, f3, f4, f5, f6, f7⟩ := frozen8 (s := z0) HR5.out
      obtain ⟨d0, d1, d2, d3, d4, d5, d6, d7⟩ := cell8 (s := z0) HR5.out
      clear hx ox cx lx hO hb4 hb5 HM4 HG4 HR4 LT4 LU OT OU CT CU
      go_wp2
      exact bodyPost_ret (v := nodeV 3 z0 0 0 (.slice av nn cv)) (ret8 (s := z0) Try.results23 rfl HX5.out.1) rfl ⟨x, by rw [HEQ.out], HOX.out.1, HOX.out.2, HLX.out, A3, by omega, HX5.out.2.1, HX5.out.2.2⟩
    by_cases i5 : r = 5
    · subst i5
      go_wp2_with fail
      refine (IH.out (deep - 1) wd p a n cap F (A + 1) (by omega) (by omega) (by omega) HM2.out HF.out hn (by omega)).mono ?_
      rintro e w2 ⟨t, rfl, ot, ct, lt, A2, hA2, hM3, hG3⟩
      have HR3 := Lib.hid (box_on HR2.out (by omega) hG3)
      have HG3 := Lib.hid (grownBy_trans HG2.out hG3)
      have HM3 := Lib.hid hM3
      have OT := Lib.hid ot
      have CT := Lib.hid ct
      have LT := Lib.hid lt
      clear hM3 hG3 HM2 HG2 HR2 ot ct lt
      go_wp2_with fail
      refine (IH.out (deep - 1) w2 p a n cap F A2 (by omega) (by omega) (by omega) HM3.out HF.out hn (by omega)).mono ?_
      rintro e w3 ⟨u, rfl, ou, cu, lu, A3, hA3, hM4, hG4⟩
      have HR4 := Lib.hid (box_on HR3.out (by omega) hG4)
      have HG4 := Lib.hid (grownBy_trans HG3.out hG4)
      have HM4 := Lib.hid hM4
      have OU := Lib.hid ou
      have CU := Lib.hid cu
      have LU := Lib.hid lu
      have LT4 := Lib.hid ((Lives.grown HM3.out hG4 (Nat.le_refl _) LT.out).mono hG4.size)
      clear hM4 hG4 HM3 HG3 HR3 ou cu lu LT
      go_wp2_with fail
      have hq4 : q < w3.heap.size := (Array.getElem?_eq_some_iff.1 HR4.out).1
      refine (joined_any 4 _ w3.heap.size 0 2 (pair t u) (by simp) (two_at (heap_alloc_new w3 (.cells (rowTwo t u) 27))) (pair_lives (LT4.out.now (alloc_below _ _)) (LU.out.now (alloc_below _ _))) (pair_n (by have := CT.out.1; omega) (by have := CU.out.1; omega)) (pair_0 (by omega) OT.out OU.out)).mono ?_
      rintro e w4 ⟨v, rfl, hO, hb4⟩
      have hb5 := (alloc_below w3 (.cells (rowTwo t u) 27)).trans (hb4.mono (by simp))
      have HR5 := Lib.hid ((hb5.block _ hq4).trans HR4.out)
      have HM5 := Lib.hid (HM4.out.below hb5)
      have HG5 := Lib.hid (grownBy_trans HG4.out (grown_of_below hb5 (some p)))
      obtain ⟨x, hx, ox, cx, lx⟩ := join_all (kind := 4) (by omega) OT.out OU.out CT.out CU.out (LT4.out.now hb5) (LU.out.now hb5) hO
      obtain ⟨av, cv, rfl⟩ := row_slice hO
      generalize (joinTo 4 (pair t u) 2).length = nn at *
      have HX5 := Lib.hid (fin8 (s := z0) (z := z0) HM5.out HG5.out hpq hqs HR5.out 4 0 0 (.slice av nn cv))
      have HLX := Lib.hid (Lives.put8 HR5.out ox lx 4 z0 0 0 (.slice av nn cv))
      have HEQ := Lib.hid hx
      have HOX := Lib.hid (And.intro ox cx)
      obtain ⟨f0, f1, f2, f3, f4, f5, f6, f7⟩ := frozen8 (s := z0) HR5.out
      obtain ⟨d0, d1, d2, d3, d4, d5, d6, d7⟩ := cell8 (s := z0) HR5.out
      clear hx ox cx lx hO hb4 hb5 HM4 HG4 HR4 LT4 LU OT OU CT CU
      go_wp2
      exact bodyPost_ret (v := nodeV 4 z0 0 0 (.slice av nn cv)) (ret8 (s := z0) Try.results23 rfl HX5.out.1) rfl ⟨x, by rw [HEQ.out], HOX.out.1, HOX.out.2, HLX.out, A3, by omega, HX5.out.2.1, HX5.out.2.2⟩
    have n5 : (r == 5) = false := by simp [i5]
    go_wp2_with fail
    refine (pick_any 3 (by omega) (by omega) wd p a n cap F (A + 1) HM2.out HF.out hn (by omega)).mono ?_
    rintro e w2 ⟨lo, rfl, hl0, hl3, hM3, hG3⟩
    have HR3 := Lib.hid (box_on HR2.out (by omega) hG3)
    have HG3 := Lib.hid (grownBy_trans HG2.out hG3)
    have HM3 := Lib.hid hM3
    have hq3 : q < w2.heap.size := (Array.getElem?_eq_some_iff.1 HR3.out).1
    clear hM3 hG3 HM2 HG2 HR2 hq2
    go_wp2_with fail
    have HOB := Lib.hid (show w2.alloc (.cells (row8 5 z0 lo (-1) (.slice none 0 0)) 27) = w2.alloc (.cells (row8 5 z0 lo (-1) (.slice none 0 0)) 27) from rfl)
    refine (pick_any 2 (by omega) (by omega) _ p a n cap F (A + 2) (HM3.out.below (alloc_below w2 _)) HF.out hn (by omega)).mono ?_
    rintro e w3 ⟨r2, rfl, hr20, hr22, hM4, hG4⟩
    obtain ⟨hX4, hG4⟩ := box_grown HM3.out.lt hG4
    have HX4 := Lib.hid (show w3.heap[w2.heap.size]? = some (.cells (row8 5 z0 lo (-1) (.slice none 0 0)) 27 (0, 0)) from hX4)
    have HR4 := Lib.hid (box_on HR3.out (by omega) hG4)
    have HG4 := Lib.hid (grownBy_trans HG3.out hG4)
    have HM4 := Lib.hid hM4
    have hpx := HM3.out.lt
    have hwx := Nat.le_trans hqs (Nat.le_of_lt hq3)
    have hqx : q ≠ w2.heap.size := by omega
    clear hM4 hG4 HM3 HG3 HR3 hX4 HOB
    generalize w2.heap.size = x at *
    by_cases e2 : r2 = 1
    · subst e2
      have hlo : lo = 0 ∨ lo = 1 ∨ lo = 2 := by omega
      obtain ⟨k5, k6, kf, _⟩ := keepX HX4.out (grownBy_refl w3 (some p)) hpx
      rcases hlo with rfl | rfl | rfl
      · go_wp2_with fail
        go_region_held3 (fun w' => w'.cell? ⟨x, 5, none⟩ = some (.int .i64 0) ∧ w'.frozen? ⟨x, 6, none⟩ = false)
          (first | exact ⟨(keepX HX4.out (grownBy_drew _ _) hpx).1, (keepX HX4.out (grownBy_drew _ _) hpx).2.2.1⟩ | exact ⟨j5, jf⟩ | exact ⟨cell_of_row _ x 5 _ _ _ (set6 _ jX), frozen_of_row _ _ 6 _ _ (set6 _ jX)⟩)
          (first
            | (go_at_call 32; refine (pick_any 2 (by omega) (by omega) w3.drew p a n cap F (A + 3) (mk_drew HM4.out) HF.out hn (by omega)).mono ?_; rintro e wz ⟨r3, rfl, h30, h32, hM5, hG5⟩; obtain ⟨j5, j6, jf, jX⟩ := keepX HX4.out (grownBy_trans (grownBy_drew _ _) hG5) hpx; have hwr : IntKind.i64.wrap (1 + r3) = 1 + r3 := IntWalk.i64_in _ (by omega)))
        all_goals
          have HX5 := Lib.hid (set6 (1 + r3) jX)
          have hBx : Below x wz (wz.setCell ⟨x, 6, none⟩ (.int .i64 (1 + r3))) := (Below.refl _ _).setCell (show x ≤ (⟨x, 6, none⟩ : Addr).block from Nat.le_refl _) _
          have HM5 := Lib.hid (hM5.belowB hpx hBx)
          have hG45 := grownBy_trans HG4.out (grownBy_trans (grownBy_drew _ _) hG5)
          have HG5 := Lib.hid (grown_then hG45 (hBx.mono hwx))
          have HR5 := Lib.hid (box_on (box_on (w := w3.drew) HR4.out (by omega) hG5) (Ne.symm hqx) (setCell_grown wz x 6 (.int .i64 (1 + r3))))
          have HCB := Lib.hid (show countsB 0 (1 + r3) = true by simp [countsB]; omega)
          clear hM5 hG5 jX j5 j6 jf hwr hBx hG45 HM4 HG4 HR4 HX4 k5 k6 kf
          generalize wz.setCell ⟨x, 6, none⟩ (.int .i64 (1 + r3)) = wt at *
          generalize 1 + r3 = hi at *
          go_wp2_with fail
          refine (IH.out (deep - 2) wt p a n cap F (A + 4) (by omega) (by omega) (by omega) HM5.out HF.out hn (by omega)).mono ?_
          rintro e w5 ⟨t, rfl, ot, ct, lt, A5, hA5, hM6, hG6⟩
          have HX6 := Lib.hid (box_on HX5.out (by omega) hG6)
          have HR6 := Lib.hid (box_on HR5.out (by omega) hG6)
          have HG6 := Lib.hid (grownBy_trans HG5.out hG6)
          have HM6 := Lib.hid hM6
          have OT := Lib.hid ot
          have CT := Lib.hid ct
          have LT := Lib.hid lt
          clear hM6 hG6 HM5 HG5 HR5 HX5 ot ct lt
          have k7 : ∀ o, (w5.alloc o).cell? ⟨x, 7, none⟩ = some (.slice none 0 0) := fun o => cell_of_row _ x 7 _ _ _ (((alloc_below w5 o).block _ (Array.getElem?_eq_some_iff.1 HX6.out).1).trans HX6.out)
          have kf7 : ∀ o, (w5.alloc o).frozen? ⟨x, 7, none⟩ = false := fun o => frozen_of_row _ x 7 _ _ (((alloc_below w5 o).block _ (Array.getElem?_eq_some_iff.1 HX6.out).1).trans HX6.out)
          go_upto_region 12 with (fail)
          obtain ⟨w6, h6⟩ : ∃ w6, w6 = (w5.alloc (.cells (row8 t.k t.s t.lo t.hi (.slice t.a t.n t.cap)) 27)).setCell ⟨x, 7, none⟩ (.slice (some ⟨w5.heap.size, 0, none⟩) 1 1) := ⟨_, rfl⟩
          rw [← h6]
          obtain ⟨hM7, hG7, hR7, hX7, hY7, lt7⟩ := rep_fin HM6.out HG6.out HR6.out HX6.out hpx hqx hwx OT.out LT.out h6
          obtain ⟨ox, cx, lx⟩ := rep_all HCB.out OT.out CT.out lt7 hY7
          have HX8 := Lib.hid (fin8 (s := z0) (z := z0) hM7 hG7 hpq hqs hR7 5 0 hi (.slice (some ⟨w5.heap.size, 0, none⟩) 1 1))
          have HLX := Lib.hid (Lives.put8 hR7 ox lx 5 z0 0 hi (.slice (some ⟨w5.heap.size, 0, none⟩) 1 1))
          have HOX := Lib.hid (And.intro ox cx)
          obtain ⟨f0, f1, f2, f3, f4, f5, f6, f7⟩ := frozen8 (s := z0) hR7
          obtain ⟨d0, d1, d2, d3, d4, d5, d6, d7⟩ := cell8 (s := z0) hR7
          obtain ⟨c0, c1, c2, c3, c4, c5, c6, c7⟩ := cell8 (s := z0) hX7
          clear hM7 hG7 hR7 hX7 hY7 lt7 ox cx lx h6 k7 kf7 HM6 HG6 HR6 HX6 LT OT CT
          generalize w5.heap.size = y at *
          go_wp2
          exact bodyPost_ret (v := nodeV 5 z0 0 hi (.slice (some ⟨y, 0, none⟩) 1 1)) (ret8 (s := z0) Try.results23 rfl HX8.out.1) rfl ⟨repX 0 hi y t, rfl, HOX.out.1, HOX.out.2, HLX.out, A5, by omega, HX8.out.2.1, HX8.out.2.2⟩
      · go_wp2_with fail
        go_region_held3 (fun w' => w'.cell? ⟨x, 5, none⟩ = some (.int .i64 1) ∧ w'.frozen? ⟨x, 6, none⟩ = false)
          (first | exact ⟨(keepX HX4.out (grownBy_drew _ _) hpx).1, (keepX HX4.out (grownBy_drew _ _) hpx).2.2.1⟩ | exact ⟨j5, jf⟩ | exact ⟨cell_of_row _ x 5 _ _ _ (set6 _ jX), frozen_of_row _ _ 6 _ _ (set6 _ jX)⟩)
          (first
            | (go_at_call 32; refine (pick_any 2 (by omega) (by omega) w3.drew p a n cap F (A + 3) (mk_drew HM4.out) HF.out hn (by omega)).mono ?_; rintro e wz ⟨r3, rfl, h30, h32, hM5, hG5⟩; obtain ⟨j5, j6, jf, jX⟩ := keepX HX4.out (grownBy_trans (grownBy_drew _ _) hG5) hpx; have hwr : IntKind.i64.wrap (1 + r3) = 1 + r3 := IntWalk.i64_in _ (by omega)))
        all_goals
          have HX5 := Lib.hid (set6 (1 + r3) jX)
          have hBx : Below x wz (wz.setCell ⟨x, 6, none⟩ (.int .i64 (1 + r3))) := (Below.refl _ _).setCell (show x ≤ (⟨x, 6, none⟩ : Addr).block from Nat.le_refl _) _
          have HM5 := Lib.hid (hM5.belowB hpx hBx)
          have hG45 := grownBy_trans HG4.out (grownBy_trans (grownBy_drew _ _) hG5)
          have HG5 := Lib.hid (grown_then hG45 (hBx.mono hwx))
          have HR5 := Lib.hid (box_on (box_on (w := w3.drew) HR4.out (by omega) hG5) (Ne.symm hqx) (setCell_grown wz x 6 (.int .i64 (1 + r3))))
          have HCB := Lib.hid (show countsB 1 (1 + r3) = true by simp [countsB]; omega)
          clear hM5 hG5 jX j5 j6 jf hwr hBx hG45 HM4 HG4 HR4 HX4 k5 k6 kf
          generalize wz.setCell ⟨x, 6, none⟩ (.int .i64 (1 + r3)) = wt at *
          generalize 1 + r3 = hi at *
          go_wp2_with fail
          refine (IH.out (deep - 2) wt p a n cap F (A + 4) (by omega) (by omega) (by omega) HM5.out HF.out hn (by omega)).mono ?_
          rintro e w5 ⟨t, rfl, ot, ct, lt, A5, hA5, hM6, hG6⟩
          have HX6 := Lib.hid (box_on HX5.out (by omega) hG6)
          have HR6 := Lib.hid (box_on HR5.out (by omega) hG6)
          have HG6 := Lib.hid (grownBy_trans HG5.out hG6)
          have HM6 := Lib.hid hM6
          have OT := Lib.hid ot
          have CT := Lib.hid ct
          have LT := Lib.hid lt
          clear hM6 hG6 HM5 HG5 HR5 HX5 ot ct lt
          have k7 : ∀ o, (w5.alloc o).cell? ⟨x, 7, none⟩ = some (.slice none 0 0) := fun o => cell_of_row _ x 7 _ _ _ (((alloc_below w5 o).block _ (Array.getElem?_eq_some_iff.1 HX6.out).1).trans HX6.out)
          have kf7 : ∀ o, (w5.alloc o).frozen? ⟨x, 7, none⟩ = false := fun o => frozen_of_row _ x 7 _ _ (((alloc_below w5 o).block _ (Array.getElem?_eq_some_iff.1 HX6.out).1).trans HX6.out)
          go_upto_region 12 with (fail)
          obtain ⟨w6, h6⟩ : ∃ w6, w6 = (w5.alloc (.cells (row8 t.k t.s t.lo t.hi (.slice t.a t.n t.cap)) 27)).setCell ⟨x, 7, none⟩ (.slice (some ⟨w5.heap.size, 0, none⟩) 1 1) := ⟨_, rfl⟩
          rw [← h6]
          obtain ⟨hM7, hG7, hR7, hX7, hY7, lt7⟩ := rep_fin HM6.out HG6.out HR6.out HX6.out hpx hqx hwx OT.out LT.out h6
          obtain ⟨ox, cx, lx⟩ := rep_all HCB.out OT.out CT.out lt7 hY7
          have HX8 := Lib.hid (fin8 (s := z0) (z := z0) hM7 hG7 hpq hqs hR7 5 1 hi (.slice (some ⟨w5.heap.size, 0, none⟩) 1 1))
          have HLX := Lib.hid (Lives.put8 hR7 ox lx 5 z0 1 hi (.slice (some ⟨w5.heap.size, 0, none⟩) 1 1))
          have HOX := Lib.hid (And.intro ox cx)
          obtain ⟨f0, f1, f2, f3, f4, f5, f6, f7⟩ := frozen8 (s := z0) hR7
          obtain ⟨d0, d1, d2, d3, d4, d5, d6, d7⟩ := cell8 (s := z0) hR7
          obtain ⟨c0, c1, c2, c3, c4, c5, c6, c7⟩ := cell8 (s := z0) hX7
          clear hM7 hG7 hR7 hX7 hY7 lt7 ox cx lx h6 k7 kf7 HM6 HG6 HR6 HX6 LT OT CT
          generalize w5.heap.size = y at *
          go_wp2
          exact bodyPost_ret (v := nodeV 5 z0 1 hi (.slice (some ⟨y, 0, none⟩) 1 1)) (ret8 (s := z0) Try.results23 rfl HX8.out.1) rfl ⟨repX 1 hi y t, rfl, HOX.out.1, HOX.out.2, HLX.out, A5, by omega, HX8.out.2.1, HX8.out.2.2⟩
      · go_wp2_with fail
        go_region_held3 (fun w' => w'.cell? ⟨x, 5, none⟩ = some (.int .i64 2) ∧ w'.frozen? ⟨x, 6, none⟩ = false)
          (first | exact ⟨(keepX HX4.out (grownBy_drew _ _) hpx).1, (keepX HX4.out (grownBy_drew _ _) hpx).2.2.1⟩ | exact ⟨j5, jf⟩ | exact ⟨cell_of_row _ x 5 _ _ _ (set6 _ jX), frozen_of_row _ _ 6 _ _ (set6 _ jX)⟩)
          (first
            | (go_at_call 32; refine (pick_any 2 (by omega) (by omega) w3.drew p a n cap F (A + 3) (mk_drew HM4.out) HF.out hn (by omega)).mono ?_; rintro e wz ⟨r3, rfl, h30, h32, hM5, hG5⟩; obtain ⟨j5, j6, jf, jX⟩ := keepX HX4.out (grownBy_trans (grownBy_drew _ _) hG5) hpx; have hwr : IntKind.i64.wrap (2 + r3) = 2 + r3 := IntWalk.i64_in _ (by omega)))
        all_goals
          have HX5 := Lib.hid (set6 (2 + r3) jX)
          have hBx : Below x wz (wz.setCell ⟨x, 6, none⟩ (.int .i64 (2 + r3))) := (Below.refl _ _).setCell (show x ≤ (⟨x, 6, none⟩ : Addr).block from Nat.le_refl _) _
          have HM5 := Lib.hid (hM5.belowB hpx hBx)
          have hG45 := grownBy_trans HG4.out (grownBy_trans (grownBy_drew _ _) hG5)
          have HG5 := Lib.hid (grown_then hG45 (hBx.mono hwx))
          have HR5 := Lib.hid (box_on (box_on (w := w3.drew) HR4.out (by omega) hG5) (Ne.symm hqx) (setCell_grown wz x 6 (.int .i64 (2 + r3))))
          have HCB := Lib.hid (show countsB 2 (2 + r3) = true by simp [countsB]; omega)
          clear hM5 hG5 jX j5 j6 jf hwr hBx hG45 HM4 HG4 HR4 HX4 k5 k6 kf
          generalize wz.setCell ⟨x, 6, none⟩ (.int .i64 (2 + r3)) = wt at *
          generalize 2 + r3 = hi at *
          go_wp2_with fail
          refine (IH.out (deep - 2) wt p a n cap F (A + 4) (by omega) (by omega) (by omega) HM5.out HF.out hn (by omega)).mono ?_
          rintro e w5 ⟨t, rfl, ot, ct, lt, A5, hA5, hM6, hG6⟩
          have HX6 := Lib.hid (box_on HX5.out (by omega) hG6)
          have HR6 := Lib.hid (box_on HR5.out (by omega) hG6)
          have HG6 := Lib.hid (grownBy_trans HG5.out hG6)
          have HM6 := Lib.hid hM6
          have OT := Lib.hid ot
          have CT := Lib.hid ct
          have LT := Lib.hid lt
          clear hM6 hG6 HM5 HG5 HR5 HX5 ot ct lt
          have k7 : ∀ o, (w5.alloc o).cell? ⟨x, 7, none⟩ = some (.slice none 0 0) := fun o => cell_of_row _ x 7 _ _ _ (((alloc_below w5 o).block _ (Array.getElem?_eq_some_iff.1 HX6.out).1).trans HX6.out)
          have kf7 : ∀ o, (w5.alloc o).frozen? ⟨x, 7, none⟩ = false := fun o => frozen_of_row _ x 7 _ _ (((alloc_below w5 o).block _ (Array.getElem?_eq_some_iff.1 HX6.out).1).trans HX6.out)
          go_upto_region 12 with (fail)
          obtain ⟨w6, h6⟩ : ∃ w6, w6 = (w5.alloc (.cells (row8 t.k t.s t.lo t.hi (.slice t.a t.n t.cap)) 27)).setCell ⟨x, 7, none⟩ (.slice (some ⟨w5.heap.size, 0, none⟩) 1 1) := ⟨_, rfl⟩
          rw [← h6]
          obtain ⟨hM7, hG7, hR7, hX7, hY7, lt7⟩ := rep_fin HM6.out HG6.out HR6.out HX6.out hpx hqx hwx OT.out LT.out h6
          obtain ⟨ox, cx, lx⟩ := rep_all HCB.out OT.out CT.out lt7 hY7
          have HX8 := Lib.hid (fin8 (s := z0) (z := z0) hM7 hG7 hpq hqs hR7 5 2 hi (.slice (some ⟨w5.heap.size, 0, none⟩) 1 1))
          have HLX := Lib.hid (Lives.put8 hR7 ox lx 5 z0 2 hi (.slice (some ⟨w5.heap.size, 0, none⟩) 1 1))
          have HOX := Lib.hid (And.intro ox cx)
          obtain ⟨f0, f1, f2, f3, f4, f5, f6, f7⟩ := frozen8 (s := z0) hR7
          obtain ⟨d0, d1, d2, d3, d4, d5, d6, d7⟩ := cell8 (s := z0) hR7
          obtain ⟨c0, c1, c2, c3, c4, c5, c6, c7⟩ := cell8 (s := z0) hX7
          clear hM7 hG7 hR7 hX7 hY7 lt7 ox cx lx h6 k7 kf7 HM6 HG6 HR6 HX6 LT OT CT
          generalize w5.heap.size = y at *
          go_wp2
          exact bodyPost_ret (v := nodeV 5 z0 2 hi (.slice (some ⟨y, 0, none⟩) 1 1)) (ret8 (s := z0) Try.results23 rfl HX8.out.1) rfl ⟨repX 2 hi y t, rfl, HOX.out.1, HOX.out.2, HLX.out, A5, by omega, HX8.out.2.1, HX8.out.2.2⟩
    · have e3 : (r2 == 1) = false := by simp [e2]
      obtain ⟨hi, hhi⟩ : ∃ hi : Int, hi = -1 := ⟨_, rfl⟩
      have HX5 := HX4
      have HM5 := HM4
      have HG5 := HG4
      have HR5 := HR4
      rw [← hhi] at HX5
      have HCB := Lib.hid (show countsB lo hi = true by rw [hhi]; simp [countsB]; omega)
      clear HM4 HG4 HR4 HX4 hhi
      generalize w3 = wt at *
      go_wp2_with fail
      refine (IH.out (deep - 2) wt p a n cap F (A + 3) (by omega) (by omega) (by omega) HM5.out HF.out hn (by omega)).mono ?_
      rintro e w5 ⟨t, rfl, ot, ct, lt, A5, hA5, hM6, hG6⟩
      have HX6 := Lib.hid (box_on HX5.out (by omega) hG6)
      have HR6 := Lib.hid (box_on HR5.out (by omega) hG6)
      have HG6 := Lib.hid (grownBy_trans HG5.out hG6)
      have HM6 := Lib.hid hM6
      have OT := Lib.hid ot
      have CT := Lib.hid ct
      have LT := Lib.hid lt
      clear hM6 hG6 HM5 HG5 HR5 HX5 ot ct lt
      have k7 : ∀ o, (w5.alloc o).cell? ⟨x, 7, none⟩ = some (.slice none 0 0) := fun o => cell_of_row _ x 7 _ _ _ (((alloc_below w5 o).block _ (Array.getElem?_eq_some_iff.1 HX6.out).1).trans HX6.out)
      have kf7 : ∀ o, (w5.alloc o).frozen? ⟨x, 7, none⟩ = false := fun o => frozen_of_row _ x 7 _ _ (((alloc_below w5 o).block _ (Array.getElem?_eq_some_iff.1 HX6.out).1).trans HX6.out)
      go_upto_region 12 with (fail)
      obtain ⟨w6, h6⟩ : ∃ w6, w6 = (w5.alloc (.cells (row8 t.k t.s t.lo t.hi (.slice t.a t.n t.cap)) 27)).setCell ⟨x, 7, none⟩ (.slice (some ⟨w5.heap.size, 0, none⟩) 1 1) := ⟨_, rfl⟩
      rw [← h6]
      obtain ⟨hM7, hG7, hR7, hX7, hY7, lt7⟩ := rep_fin HM6.out HG6.out HR6.out HX6.out hpx hqx hwx OT.out LT.out h6
      obtain ⟨ox, cx, lx⟩ := rep_all HCB.out OT.out CT.out lt7 hY7
      have HX8 := Lib.hid (fin8 (s := z0) (z := z0) hM7 hG7 hpq hqs hR7 5 lo hi (.slice (some ⟨w5.heap.size, 0, none⟩) 1 1))
      have HLX := Lib.hid (Lives.put8 hR7 ox lx 5 z0 lo hi (.slice (some ⟨w5.heap.size, 0, none⟩) 1 1))
      have HOX := Lib.hid (And.intro ox cx)
      obtain ⟨f0, f1, f2, f3, f4, f5, f6, f7⟩ := frozen8 (s := z0) hR7
      obtain ⟨d0, d1, d2, d3, d4, d5, d6, d7⟩ := cell8 (s := z0) hR7
      obtain ⟨c0, c1, c2, c3, c4, c5, c6, c7⟩ := cell8 (s := z0) hX7
      clear hM7 hG7 hR7 hX7 hY7 lt7 ox cx lx h6 k7 kf7 HM6 HG6 HR6 HX6 LT OT CT
      generalize w5.heap.size = y at *
      go_wp2
      exact bodyPost_ret (v := nodeV 5 z0 lo hi (.slice (some ⟨y, 0, none⟩) 1 1)) (ret8 (s := z0) Try.results23 rfl HX8.out.1) rfl ⟨repX lo hi y t, rfl, HOX.out.1, HOX.out.2, HLX.out, A5, by omega, HX8.out.2.1, HX8.out.2.2⟩
end Go.Proofs.Ytbahadgcmaabcaa
