/- Rows of patterns in memory; what joined makes of two patterns. -/
import Derived.Test.YtbahadgcmaabcaaMb
import Derived.Deep.RegionLaw
namespace Go.Proofs.Ytbahadgcmaabcaa
open Go.RowKit
/-- A pattern's eight cells, as a list. -/
def cells8 (t : Tr) : List Value := [.int .i64 t.k, .int .u64 (t.s 0), .int .u64 (t.s 1), .int .u64 (t.s 2), .int .u64 (t.s 3), .int .i64 t.lo, .int .i64 t.hi, .slice t.a t.n t.cap]
def flatT (L : List Tr) : List Value := L.flatMap cells8
set_option maxRecDepth 100000 in
theorem cells8_len (t : Tr) : (cells8 t).length = 8 := rfl
set_option maxRecDepth 100000 in
theorem flatT_append (L M : List Tr) : flatT (L ++ M) = flatT L ++ flatT M := by simp [flatT]
set_option maxRecDepth 100000 in
theorem flatT_one (t : Tr) : flatT [t] = cells8 t := by simp [flatT]
set_option maxRecDepth 100000 in
theorem flatT_len (L : List Tr) : (flatT L).length = L.length * 8 := by
  induction L with
  | nil => rfl
  | cons t L ih => rw [show t :: L = [t] ++ L by rfl, flatT_append, List.length_append, ih, flatT_one, cells8_len, List.length_append]; simp; omega
set_option maxRecDepth 100000 in
theorem flatT_one_cell (L : List Tr) : ∀ u ∈ flatT L, u.oneCell' = true := by
  intro u hu
  obtain ⟨t, _, ht⟩ := List.mem_flatMap.1 hu
  simp [cells8] at ht
  rcases ht with rfl | rfl | rfl | rfl | rfl | rfl | rfl | rfl <;> rfl
set_option maxRecDepth 100000 in
theorem flatT_get : ∀ (L : List Tr) (i c : Nat), i < L.length → c < 8 → (flatT L)[i * 8 + c]? = (cells8 (L.getD i .nul))[c]?
  | [], i, c, hi, _ => by simp at hi
  | t :: L, 0, c, _, hc => by
    rw [show t :: L = [t] ++ L by rfl, flatT_append, flatT_one, List.getElem?_append_left (by rw [cells8_len]; omega)]
    simp
  | t :: L, i + 1, c, hi, hc => by
    have hi' : i < L.length := by simpa using hi
    have := flatT_get L i c hi' hc
    rw [show t :: L = [t] ++ L by rfl, flatT_append, flatT_one, List.getElem?_append_right (by rw [cells8_len]; omega), cells8_len, show (i + 1) * 8 + c - 8 = i * 8 + c by omega, this]
    simp
set_option maxRecDepth 100000 in
/-- A row of patterns in memory, read off. -/
theorem at8_of {w : World} {g off : Nat} {L : List Tr} (h : ∀ j u, (flatT L)[j]? = some u → w.cell? ((⟨g, off, none⟩ : Addr).add j) = some u) {i : Nat} (hi : i < L.length) : At8 w g (off + i * 8) (L.getD i .nul) := by
  have key : ∀ c u, c < 8 → (cells8 (L.getD i .nul))[c]? = some u → w.cell? ⟨g, off + i * 8 + c, none⟩ = some u := fun c u hc hu => by
    have := h (i * 8 + c) u ((flatT_get L i c hi hc).trans hu)
    rw [Addr.add_lit] at this
    rw [← this, Nat.add_assoc]
  exact ⟨key 0 _ (by omega) rfl, key 1 _ (by omega) rfl, key 2 _ (by omega) rfl, key 3 _ (by omega) rfl, key 4 _ (by omega) rfl, key 5 _ (by omega) rfl, key 6 _ (by omega) rfl, key 7 _ (by omega) rfl⟩
set_option maxRecDepth 100000 in
theorem At8.list {w : World} {g o : Nat} {t : Tr} (h : At8 w g o t) : ∀ c u, (cells8 t)[c]? = some u → w.cell? ⟨g, o + c, none⟩ = some u := by
  obtain ⟨h0, h1, h2, h3, h4, h5, h6, h7⟩ := h
  intro c u hu
  have hc : c < 8 := by have := List.getElem?_eq_some_iff.1 hu; obtain ⟨q, _⟩ := this; exact q
  match c, hc with
  | 0, _ => cases hu; exact h0
  | 1, _ => cases hu; exact h1
  | 2, _ => cases hu; exact h2
  | 3, _ => cases hu; exact h3
  | 4, _ => cases hu; exact h4
  | 5, _ => cases hu; exact h5
  | 6, _ => cases hu; exact h6
  | 7, _ => cases hu; exact h7
/-- A pattern's kids. -/
def kidsL (kid : Nat → Tr) (n : Nat) : List Tr := (List.range n).map kid
set_option maxRecDepth 100000 in
theorem kidsL_succ (kid : Nat → Tr) (n : Nat) : kidsL kid (n + 1) = kidsL kid n ++ [kid n] := by simp [kidsL, List.range_succ]
set_option maxRecDepth 100000 in
theorem kidsL_len (kid : Nat → Tr) (n : Nat) : (kidsL kid n).length = n := by simp [kidsL]
set_option maxRecDepth 100000 in
theorem kids_news {w : World} {g off : Nat} {kid : Nat → Tr} : ∀ n : Nat, (∀ i, i < n → At8 w g (off + i * 8) (kid i)) → ∀ j u, (flatT (kidsL kid n))[j]? = some u → w.cell? ((⟨g, off, none⟩ : Addr).add j) = some u
  | 0, _, j, u, hu => by simp [kidsL, flatT] at hu
  | n + 1, h, j, u, hu => by
    rw [kidsL_succ, flatT_append, flatT_one] at hu
    by_cases hj : j < n * 8
    · rw [List.getElem?_append_left (by rw [flatT_len, kidsL_len]; exact hj)] at hu
      exact kids_news n (fun i hi => h i (by omega)) j u hu
    · rw [List.getElem?_append_right (by rw [flatT_len, kidsL_len]; omega), flatT_len, kidsL_len] at hu
      have := (h n (by omega)).list _ u hu
      rw [Addr.add_lit, ← this, show off + j = off + n * 8 + (j - n * 8) by omega]
/-- What one pattern gives to the joined one. -/
def partL (kind : Int) (t : Tr) : List Tr := if t.k = kind then kidsL t.kid t.n else [t]
def joinTo (kind : Int) (tt : Nat → Tr) : Nat → List Tr
  | 0 => []
  | j + 1 => joinTo kind tt j ++ partL kind (tt j)
set_option maxRecDepth 100000 in
theorem partL_len (kind : Int) (t : Tr) : (partL kind t).length ≤ t.n + 1 := by
  unfold partL; split
  · rw [kidsL_len]; omega
  · simp
def cntL (L : List Tr) : Nat := (L.map cnt).sum
set_option maxRecDepth 100000 in
theorem cntL_append (L M : List Tr) : cntL (L ++ M) = cntL L + cntL M := by simp [cntL]
set_option maxRecDepth 100000 in
theorem cntL_kids (kid : Nat → Tr) : ∀ n, cntL (kidsL kid n) = sumTo (fun i => cnt (kid i)) n
  | 0 => rfl
  | n + 1 => by rw [kidsL_succ, cntL_append, cntL_kids kid n]; simp [cntL, sumTo]
set_option maxRecDepth 100000 in
theorem kidsL_get {L : List Tr} : kidsL (fun i => L.getD i .nul) L.length = L := by
  apply List.ext_getElem?
  intro i
  simp only [kidsL, List.getElem?_map]
  by_cases hi : i < L.length
  · rw [List.getElem?_eq_getElem hi, List.getElem?_range hi]
    simp [hi]
  · rw [List.getElem?_eq_none (l := L) (by omega), List.getElem?_eq_none (by rw [List.length_range]; omega)]
    rfl
set_option maxRecDepth 100000 in
theorem kidsL_mem {kid : Nat → Tr} {n : Nat} {t : Tr} (h : t ∈ kidsL kid n) : ∃ i, i < n ∧ t = kid i := by
  obtain ⟨i, hi, rfl⟩ := List.mem_map.1 h
  exact ⟨i, List.mem_range.1 hi, rfl⟩
set_option maxRecDepth 100000 in
theorem okT_mono : ∀ {t : Tr} {lv lv' : Nat}, okT t lv = true → lv ≤ lv' → okT t lv' = true
  | .node k s lo hi a n cap kid, lv, lv', h, hl => by
    simp only [okT, Bool.and_eq_true, decide_eq_true_eq] at h ⊢
    exact ⟨by omega, h.2.1, allTo_iff.2 fun i hi => okT_mono (allTo_iff.1 h.2.2 i hi) (by omega)⟩
  | .nul, _, _, h, _ => by simp [okT] at h
set_option maxRecDepth 100000 in
theorem okT_kid {t : Tr} {lv : Nat} (h : okT t lv = true) : fitsB t = true ∧ 0 < lv ∧ ∀ i, i < t.n → okT (t.kid i) (lv - 1) = true := by
  cases t with
  | nul => simp [okT] at h
  | node k s lo hi a n cap kid =>
    simp only [okT, Bool.and_eq_true, decide_eq_true_eq] at h
    exact ⟨h.2.1, h.1, fun i hi => allTo_iff.1 h.2.2 i hi⟩
set_option maxRecDepth 100000 in
theorem fits_many_ne {t : Tr} (h : fitsB t = true) (hk : t.k = 3 ∨ t.k = 4) : 2 ≤ t.n ∧ ∀ i, i < t.n → (t.kid i).k ≠ t.k := by
  have h2 : t.k ≠ 2 := by omega
  have h1 : t.k ≠ 1 := by omega
  have h5 : t.k ≠ 5 := by omega
  simp only [fitsB, h2, h1, h5, hk, if_true, if_false, Bool.and_eq_true, decide_eq_true_eq] at h
  refine ⟨h.2.1, fun i hi e => ?_⟩
  have := anyTo_yes (p := fun i => decide ((t.kid i).k = t.k)) hi (by simp [e])
  rw [this] at h
  simp at h
set_option maxRecDepth 100000 in
/-- What is known of one pattern's part. -/
theorem part_ok {kind : Int} (hk : kind = 3 ∨ kind = 4) {t : Tr} {lv : Nat} (h : okT t lv = true) : 1 ≤ (partL kind t).length ∧ cntL (partL kind t) ≤ cnt t ∧ ∀ u ∈ partL kind t, okT u lv = true ∧ u.k ≠ kind := by
  obtain ⟨hf, hl, hkid⟩ := okT_kid h
  unfold partL
  split
  · rename_i e
    subst e
    obtain ⟨h2, hne⟩ := fits_many_ne hf hk
    refine ⟨by rw [kidsL_len]; omega, ?_, fun u hu => ?_⟩
    · rw [cntL_kids, cnt_dsc]; unfold dsc; omega
    · obtain ⟨i, hi, rfl⟩ := kidsL_mem hu
      exact ⟨okT_mono (hkid i hi) (by omega), hne i hi⟩
  · rename_i e
    refine ⟨by simp, by simp [cntL], fun u hu => ?_⟩
    rw [List.mem_singleton] at hu
    subst hu
    exact ⟨h, e⟩
set_option maxRecDepth 100000 in
theorem Lives.kids {w : World} {B : Nat} {t : Tr} (h : Lives w B t) : ∀ i, i < t.n → Lives w B (t.kid i) := by
  cases t with
  | nul => exact False.elim h
  | node k s lo hi a n cap kid => exact h.2.2.2.2
set_option maxRecDepth 100000 in
theorem part_lives {kind : Int} {t : Tr} {w : World} {B : Nat} (h : Lives w B t) : ∀ u ∈ partL kind t, Lives w B u := by
  intro u hu
  unfold partL at hu
  split at hu
  · obtain ⟨i, hi, rfl⟩ := kidsL_mem hu
    exact h.kids i hi
  · rw [List.mem_singleton] at hu; subst hu; exact h
/-- A row of patterns and the pattern that has them as its kids. -/
def rowT (kind : Int) (a : Option Addr) (cap : Nat) (L : List Tr) : Tr := .node kind z0 0 0 a L.length cap fun i => L.getD i .nul
set_option maxRecDepth 100000 in
theorem rowT_cnt (kind : Int) (a : Option Addr) (cap : Nat) (L : List Tr) : cnt (rowT kind a cap L) = 1 + cntL L := by
  unfold rowT cnt
  rw [← cntL_kids, kidsL_get]
set_option maxRecDepth 100000 in
theorem getD_mem {L : List Tr} {i : Nat} (hi : i < L.length) : L.getD i .nul ∈ L := by
  rw [List.getD_eq_getElem?_getD, List.getElem?_eq_getElem hi]; exact List.getElem_mem hi
set_option maxRecDepth 100000 in
theorem rowT_ok {kind : Int} (hk : kind = 3 ∨ kind = 4) {a : Option Addr} {cap lv : Nat} {L : List Tr} (h2 : 2 ≤ L.length) (h : ∀ u ∈ L, okT u lv = true ∧ u.k ≠ kind) : okT (rowT kind a cap L) (lv + 1) = true := by
  have hn2 : kind ≠ 2 := by omega
  have hn1 : kind ≠ 1 := by omega
  have hn5 : kind ≠ 5 := by omega
  have hany : anyTo (fun i => decide ((L.getD i .nul).k = kind)) L.length = false := by
    cases q : anyTo (fun i => decide ((L.getD i .nul).k = kind)) L.length
    · rfl
    · obtain ⟨i, hi, e⟩ := anyTo_iff.1 q
      simp only [decide_eq_true_eq] at e
      exact absurd e (h _ (getD_mem hi)).2
  have hf : fitsB (rowT kind a cap L) = true := by
    unfold fitsB
    rw [if_neg (show ¬ (rowT kind a cap L).k = 2 from hn2), if_neg (show ¬ (rowT kind a cap L).k = 1 from hn1), if_neg (show ¬ (rowT kind a cap L).k = 5 from hn5), if_pos (show (rowT kind a cap L).k = 3 ∨ (rowT kind a cap L).k = 4 from hk)]
    show (plainB z0 0 0 && (decide (2 ≤ L.length) && !anyTo (fun i => decide ((L.getD i .nul).k = kind)) L.length)) = true
    rw [hany, decide_eq_true h2]
    simp [plainB, eq_z0]
  unfold rowT at hf ⊢
  simp only [okT, hf, Bool.and_eq_true, decide_eq_true_eq]
  exact ⟨by omega, trivial, allTo_iff.2 fun i hi => (h _ (getD_mem hi)).1⟩
set_option maxRecDepth 100000 in
theorem rowT_lives {w : World} {base B : Nat} {v : Value} {L : List Tr} (kind : Int) (h : w.ownsRow base 27 8 v L.length (flatT L)) (h1 : 1 ≤ L.length) (hL : ∀ u ∈ L, Lives w B u) (hB : w.heap.size ≤ B) :
    ∃ g cap, v = .slice (some ⟨g, 0, none⟩) L.length cap ∧ base ≤ g ∧ g < w.heap.size ∧ Lives w B (rowT kind (some ⟨g, 0, none⟩) cap L) := by
  rcases h.2 with ⟨_, h0⟩ | ⟨g, cap, cur, rfl, hb, hg, h3, h4, _⟩
  · omega
  · have hgl := (Array.getElem?_eq_some_iff.1 hg).1
    refine ⟨g, cap, rfl, hb, hgl, wf_z0, h3, h4, fun _ => ⟨g, 0, rfl, by omega, fun i hi => ?_⟩, fun i hi => hL _ (getD_mem hi)⟩
    exact at8_of (fun j u hu => h.cells (g := g) rfl j u hu) hi
end Go.Proofs.Ytbahadgcmaabcaa
/- The law's joined. -/
namespace Go.Proofs.Ytbahadgcmaabcaa
open Go.RowKit
set_option maxRecDepth 100000 in
theorem info27 : (Try.prog.info? 27).map (fun i => (i.zero, i.size, i.bytes)) = some (some (nodeV 0 z0 0 0 (.slice none 0 0)), 8, 80) := by kernel_rfl
set_option maxRecDepth 100000 in
/-- The box that the kids are stored into, and the row that they are read from. -/
theorem keepMj {w w1 : World} {x g o : Nat} {kind : Int} {v v7 : Value} {row : Option Nat} (h : w.heap[x]? = some (.cells (row8 kind z0 0 0 v) 27 (0, 0))) (hg : w.cell? ⟨g, o, none⟩ = some v7) (hG : w.grownBy w1 row) (hx : some x ≠ row) (hgr : some g ≠ row) :
    w1.cell? ⟨x, 7, none⟩ = some v ∧ w1.frozen? ⟨x, 7, none⟩ = false ∧ w1.cell? ⟨g, o, none⟩ = some v7 := by
  have h' := (hG.block x (Array.getElem?_eq_some_iff.1 h).1 hx).trans h
  exact ⟨cell_of_row w1 x 7 _ _ _ h', frozen_of_row _ _ 7 _ _ h', hG.cell hg hgr⟩
set_option maxRecDepth 100000 in
theorem keepF {w w1 : World} {x c : Nat} {cs : Array Value} {row : Option Nat} (h : w.heap[x]? = some (.cells cs 27 (0, 0))) (hG : w.grownBy w1 row) (hx : some x ≠ row) : w1.frozen? ⟨x, c, none⟩ = false :=
  frozen_of_row _ _ c _ _ ((hG.block x (Array.getElem?_eq_some_iff.1 h).1 hx).trans h)
set_option maxRecDepth 100000 in
theorem keepFC {w w1 : World} {x : Nat} {kind : Int} {v : Value} {row : Option Nat} (h : w.heap[x]? = some (.cells (row8 kind z0 0 0 v) 27 (0, 0))) (hG : w.grownBy w1 row) (hx : some x ≠ row) : w1.cell? ⟨x, 7, none⟩ = some v ∧ w1.frozen? ⟨x, 7, none⟩ = false :=
  ⟨cell_of_row w1 x 7 _ _ _ ((hG.block x (Array.getElem?_eq_some_iff.1 h).1 hx).trans h), keepF h hG hx⟩
set_option maxRecDepth 100000 in
theorem keepF' {w w1 : World} {x c c' : Nat} {cs : Array Value} {row : Option Nat} {u : Value} (h : w.heap[x]? = some (.cells cs 27 (0, 0))) (hG : w.grownBy w1 row) (hx : some x ≠ row) : (w1.setCell ⟨x, c', none⟩ u).frozen? ⟨x, c, none⟩ = false :=
  frozen_of_row _ _ c _ _ (heap_setCell_same _ x c' _ _ u ((hG.block x (Array.getElem?_eq_some_iff.1 h).1 hx).trans h))
/-- After j of the two patterns. -/
structure JI (w : World) (kind : Int) (tt : Nat → Tr) (j : Nat) (v : Value) (wr : World) : Prop where
  res : wr.heap[w.heap.size]? = some (.cells (row8 0 z0 0 0 (.slice none 0 0)) 27 (0, 0))
  box : wr.heap[w.heap.size + 1]? = some (.cells (row8 kind z0 0 0 v) 27 (0, 0))
  own : wr.ownsRow (w.heap.size + 2) 27 8 v (joinTo kind tt j).length (flatT (joinTo kind tt j))
  size : w.heap.size + 2 ≤ wr.heap.size
  below : Below w.heap.size w wr
set_option maxRecDepth 100000 in
theorem own_setCell {w : World} {base e n : Nat} {v : Value} {xs : List Value} {x c : Nat} {u : Value} (h : w.ownsRow base e 8 v n xs) (hx : x < base) : (w.setCell ⟨x, c, none⟩ u).ownsRow base e 8 v n xs := by
  refine h.kept (row := some x) ⟨rfl, rfl, rfl, by simp, fun k _ hk => Below.heap_setCell _ _ _ _ fun e => hk (by rw [e])⟩ ?_
  right
  intro e
  have := (h.lt _ e).1
  omega
set_option maxRecDepth 100000 in
/-- One part more. -/
theorem JI.next {w : World} {kind : Int} {tt : Nat → Tr} {j : Nat} {v v1 : Value} {wr w1 : World} (h : JI w kind tt j v wr) (hg : wr.grownBy w1 v.ownBlock) (hown : w1.ownsRow (w.heap.size + 2) 27 8 v1 (joinTo kind tt (j + 1)).length (flatT (joinTo kind tt (j + 1)))) :
    JI w kind tt (j + 1) v1 (w1.setCell ⟨w.heap.size + 1, 7, none⟩ v1) := by
  have hne : ∀ k, k < w.heap.size + 2 → some k ≠ v.ownBlock := fun k hk e => by have := (h.own.lt _ e.symm).1; omega
  have hb1 : Below w.heap.size w w1 := h.below.trans ((grown_below h.own h.size hg).mono (by omega))
  have hbx := (hg.block (w.heap.size + 1) (by have := h.size; omega) (hne _ (by omega))).trans h.box
  have hset := heap_setCell_same _ _ 7 _ _ v1 hbx
  refine ⟨?_, ?_, own_setCell hown (by omega), ?_, hb1.setCell (show w.heap.size ≤ w.heap.size + 1 by omega) _⟩
  · rw [Below.heap_setCell _ _ _ _ (by show w.heap.size ≠ w.heap.size + 1; omega)]
    exact (hg.block _ (by have := h.size; omega) (hne _ (by omega))).trans h.res
  · rw [hset]; simp
  · simp; have := hg.size; have := h.size; omega
set_option maxRecDepth 100000 in
set_option maxHeartbeats 4000000 in
theorem joined_any (kind : Int) (w : World) (g off cap : Nat) (tt : Nat → Tr) (hg : g < w.heap.size) (h2 : ∀ i, i < 2 → At8 w g (off + i * 8) (tt i)) (hL : ∀ i, i < 2 → Lives w w.heap.size (tt i)) (hnn : ∀ i, i < 2 → (tt i).n ≤ 1000) (hn0 : ∀ i, i < 2 → (tt i).k = kind → 0 < (tt i).n) :
    Calls Try.prog 34 #[.int .i64 kind, .slice (some ⟨g, off, none⟩) 2 cap] w fun e w' => ∃ v, e = .returned (nodeV kind z0 0 0 v) ∧ w'.ownsRow w.heap.size 27 8 v (joinTo kind tt 2).length (flatT (joinTo kind tt 2)) ∧ Below w.heap.size w w' := by
  obtain ⟨i0, hi, hz0, hz1, hz2⟩ := info_parts info27
  have H2 := Lib.hid h2
  have HL := Lib.hid hL
  have HN := Lib.hid hnn
  have H0 := Lib.hid hn0
  have HLEN := Lib.hid (show ∀ j, j ≤ 2 → (joinTo kind tt j).length ≤ j * 1001 from fun j hj => by
    induction j with
    | zero => simp [joinTo]
    | succ j ih => have := ih (by omega); have := partL_len kind (tt j); have := hnn j (by omega); rw [joinTo, List.length_append]; omega)
  clear h2 hL hnn hn0
  go_enter Try.func34, Try.ntmps34
  go_wp2
  go_loopw [6] (fun c wr => ∃ j : Nat, j ≤ 2 ∧ c = .int .i64 j ∧ ∃ v, Hid (JI w kind tt j v wr)) (fun c _ => 2 - (intOf c).toNat)
  case atStart =>
    refine ⟨0, by omega, rfl, .slice none 0 0, Lib.hid ⟨?_, ?_, ?_, ?_, ?_⟩⟩
    · exact (Below.heap_alloc _ _ _ (by simp)).trans (heap_alloc_new _ _)
    · exact (by simpa using heap_alloc_new (w.alloc (.cells (row8 0 z0 0 0 (.slice none 0 0)) 27)) (.cells (row8 kind z0 0 0 (.slice none 0 0)) 27))
    · exact World.ownsRow_nil _ _ _ _
    · simp
    · exact (alloc_below _ _).alloc (by simp) _
  case round =>
    obtain ⟨j, hj, rfl, v, HJ⟩ := hrel
    by_cases hlt : j < 2
    · have hA := (H2.out j hlt).below hg HJ.out.below
      have HA := Lib.hid hA
      have HLJ := Lib.hid ((HL.out j hlt).below HJ.out.below)
      have hnj := HN.out j hlt
      have h0j := H0.out j hlt
      have hlen := HLEN.out j hj
      have hsucc : joinTo kind tt (j + 1) = joinTo kind tt j ++ partL kind (tt j) := rfl
      have hjI : (j : Int) < 2 := by omega
      obtain ⟨t, ht⟩ : ∃ t, t = tt j := ⟨_, rfl⟩
      rw [← ht] at hA HA HLJ hnj h0j hsucc
      clear ht
      have HX := Lib.hid HJ.out.own
      obtain ⟨L, hLL⟩ : ∃ L, L = joinTo kind tt j := ⟨_, rfl⟩
      rw [← hLL] at HX hsucc hlen
      have HLL := Lib.hid hLL
      clear hLL
      obtain ⟨av, cv, rfl⟩ := row_slice HX.out
      obtain ⟨c0, c1, c2, c3, c4, c5, c6, c7⟩ := hA
      have hne : ∀ k, k < w.heap.size + 2 → some k ≠ (Value.slice av L.length cv).ownBlock := fun k hk e => by have := (HX.out.lt _ e.symm).1; omega
      by_cases hkk : t.k = kind
      · rw [hkk] at c0
        obtain ⟨gk, ok, hak, hgk, hkc⟩ : ∃ gk ok, t.a = some ⟨gk, ok, none⟩ ∧ gk < w.heap.size ∧ ∀ i, i < t.n → At8 wr gk (ok + i * 8) (t.kid i) := by
          have h0 := h0j hkk
          have := HLJ.out
          cases t with
          | nul => exact False.elim this
          | node k s lo hi a n cap kid => exact this.2.2.2.1 h0
        rw [hak] at c7
        have HKC := Lib.hid hkc
        obtain ⟨d7, f7, _⟩ := keepMj HJ.out.box c7 (grownBy_refl wr (Value.slice av L.length cv).ownBlock) (hne _ (by omega)) (hne _ (by omega))
        clear hkc
        have HNE := Lib.hid (show partL kind t = kidsL t.kid t.n by unfold partL; rw [if_pos hkk])
        have HC7 := Lib.hid c7
        have HNEE := Lib.hid hne
        go_wp2_with fail
        go_region_law
          (first
            | (refine step_append_own (by rfl) (.tmp 23) (.tmp 28) 25 (by rfl) (w.heap.size + 2) 27 i0 _ 8 80 Try.underlying25 hi hz0 hz1 hz2 rfl (by omega) (.slice av L.length cv) L.length (flatT L) (by rfl) (show World.ownsRow wr.drew _ _ _ _ _ _ from HX.out) ⟨gk, ok, none⟩ t.n t.cap (flatT (kidsL t.kid t.n)) (by rfl) (by rw [flatT_len, kidsL_len]) (kids_news t.n HKC.out) (flatT_one_cell _) (by unfold maxLen; omega) (by omega) HJ.out.size ?_; intro v1 w1 hown1 hgrow hnil; obtain ⟨a1, cp1, rfl⟩ := row_slice hown1; obtain ⟨d7', f7'⟩ := keepFC HJ.out.box (grownBy_trans (grownBy_drew _ _) hgrow) (hne _ (by omega))))
        all_goals
         have hJ := HJ.out.next (v1 := .slice a1 (L.length + t.n) cp1) (grownBy_trans (grownBy_drew _ _) hgrow) (by rw [hsucc, HNE.out, flatT_append, List.length_append, kidsL_len]; exact hown1)
         go_wp2
         go_roundw
         case rel => exact ⟨j + 1, by omega, by go_num, _, Lib.hid hJ⟩
         case measure => simp [intOf]; omega
      · have hkf : (t.k == kind) = false := by simp [hkk]
        have HNE := Lib.hid (show partL kind t = [t] by unfold partL; rw [if_neg hkk])
        obtain ⟨d7, f7, _⟩ := keepMj HJ.out.box c7 (grownBy_refl wr (Value.slice av L.length cv).ownBlock) (hne _ (by omega)) (hne _ (by omega))
        have d7a : ∀ o, (wr.alloc o).cell? ⟨w.heap.size + 1, 7, none⟩ = some (.slice av L.length cv) := fun o => (alloc_below wr o).cell (p := ⟨w.heap.size + 1, 7, none⟩) (show w.heap.size + 1 < wr.heap.size by have := HJ.out.size; omega) |>.trans d7
        go_wp2_with fail
        go_region_law
          (first
            | (refine step_append_own (by rfl) (.tmp 32) (.tmp 37) 25 (by rfl) (w.heap.size + 2) 27 i0 _ 8 80 Try.underlying25 hi hz0 hz1 hz2 rfl (by omega) (.slice av L.length cv) L.length (flatT L) (by rfl) (World.ownsRow.alloc (w := wr.drew) HX.out _) ⟨wr.heap.size, 0, none⟩ 1 1 (cells8 t) (by rfl) (by rfl) (World.news_of_block (cs := row8 t.k t.s t.lo t.hi (.slice t.a t.n t.cap)) (t := 27) (fr := (0, 0)) (heap_alloc_new wr.drew _)) (by have := flatT_one_cell [t]; rwa [flatT_one] at this) (by unfold maxLen; omega) (by omega) (by simp; have := HJ.out.size; omega) ?_; intro v1 w1 hown1 hgrow hnil; obtain ⟨a1, cp1, rfl⟩ := row_slice hown1; obtain ⟨d7', f7'⟩ := keepFC HJ.out.box (grownBy_trans (grownBy_trans (grownBy_drew _ _) (World.grownBy_alloc _ _ _)) hgrow) (hne _ (by omega))))
        all_goals
         have hJ := HJ.out.next (v1 := .slice a1 (L.length + 1) cp1) (grownBy_trans (grownBy_trans (grownBy_drew _ _) (World.grownBy_alloc _ _ _)) hgrow) (by rw [hsucc, HNE.out, flatT_append, List.length_append, flatT_one]; exact hown1)
         go_wp2
         go_roundw
         case rel => exact ⟨j + 1, by omega, by go_num, _, Lib.hid hJ⟩
         case measure => simp [intOf]; omega
    · obtain rfl : j = 2 := by omega
      obtain ⟨d0, d1, d2, d3, d4, d5, d6, d7⟩ := cell8 (s := z0) HJ.out.box
      obtain ⟨av, cv, rfl⟩ := row_slice HJ.out.own
      obtain ⟨f0, f1, f2, f3, f4, f5, f6, f7⟩ := frozen8 (s := z0) HJ.out.res
      obtain ⟨e0, e1, e2, e3, e4, e5, e6, e7⟩ := cell8 (s := z0) HJ.out.res
      have HR := Lib.hid (stored8 kind z0 0 0 (.slice av (joinTo kind tt 2).length cv) HJ.out.res)
      go_wp2
      refine bodyPost_ret (v := nodeV kind z0 0 0 (.slice av (joinTo kind tt 2).length cv)) (ret8 (s := z0) Try.results34 rfl HR.out) rfl ⟨_, rfl, ?_, HJ.out.below.trans (put8_below wr (Nat.le_refl _) _ z0 _ _ _)⟩
      have hO : (put8 wr w.heap.size kind z0 0 0 (.slice av (joinTo kind tt 2).length cv)).ownsRow (w.heap.size + 2) 27 8 (.slice av (joinTo kind tt 2).length cv) (joinTo kind tt 2).length (flatT (joinTo kind tt 2)) :=
        own_setCell (own_setCell (own_setCell (own_setCell (own_setCell (own_setCell (own_setCell (own_setCell HJ.out.own (by omega)) (by omega)) (by omega)) (by omega)) (by omega)) (by omega)) (by omega)) (by omega)
      obtain ⟨h1, h2 | ⟨g', cap', cur, hv, hg', rest⟩⟩ := hO
      · exact ⟨h1, Or.inl h2⟩
      · exact ⟨h1, Or.inr ⟨g', cap', cur, hv, by omega, rest⟩⟩
end Go.Proofs.Ytbahadgcmaabcaa
