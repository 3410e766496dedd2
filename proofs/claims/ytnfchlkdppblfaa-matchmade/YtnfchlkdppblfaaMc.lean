/- Rows of patterns in memory; what joined makes of two patterns. -/
import Derived.Test.YtnfchlkdppblfaaMb
namespace Go.Proofs.Ytnfchlkdppblfaa
open Go.RowKit
/-- A pattern's eight cells, as a list. -/
def cells8 (t : Tr) : List Value := [.int .i64 t.k, .int .u64 (t.s 0), .int .u64 (t.s 1), .int .u64 (t.s 2), .int .u64 (t.s 3), .int .i64 t.lo, .int .i64 t.hi, .slice t.a t.n t.cap]
def flatT (L : List Tr) : List Value := L.flatMap cells8
set_option maxRecDepth 100000 in
theorem cells8_len (t : Tr) : (cells8 t).length = 8 := rfl
set_option maxRecDepth 100000 in
theorem flatT_append (L M : List Tr) : flatT (L ++ M) = flatT L ++ flatT M := by simp [flatT]
set_option maxRecDepth 100000 in
theorem flatT_one (t : Tr) : flatT [t] = cells8 t := by simp [flatT]
set_option maxRecDepth 100000 in
theorem flatT_len (L : List Tr) : (flatT L).length = L.length * 8 := by
  induction L with
  | nil => rfl
  | cons t L ih => rw [show t :: L = [t] ++ L by rfl, flatT_append, List.length_append, ih, flatT_one, cells8_len, List.length_append]; simp; omega
set_option maxRecDepth 100000 in
theorem flatT_one_cell (L : List Tr) : ∀ u ∈ flatT L, u.oneCell' = true := by
  intro u hu
  obtain ⟨t, _, ht⟩ := List.mem_flatMap.1 hu
  simp [cells8] at ht
  rcases ht with rfl | rfl | rfl | rfl | rfl | rfl | rfl | rfl <;> rfl
set_option maxRecDepth 100000 in
theorem flatT_get : ∀ (L : List Tr) (i c : Nat), i < L.length → c < 8 → (flatT L)[i * 8 + c]? = (cells8 (L.getD i .nul))[c]?
  | [], i, c, hi, _ => by simp at hi
  | t :: L, 0, c, _, hc => by
    rw [show t :: L = [t] ++ L by rfl, flatT_append, flatT_one, List.getElem?_append_left (by rw [cells8_len]; omega)]
    simp
  | t :: L, i + 1, c, hi, hc => by
    have hi' : i < L.length := by simpa using hi
    have := flatT_get L i c hi' hc
    rw [show t :: L = [t] ++ L by rfl, flatT_append, flatT_one, List.getElem?_append_right (by rw [cells8_len]; omega), cells8_len, show (i + 1) * 8 + c - 8 = i * 8 + c by omega, this]
    simp
set_option maxRecDepth 100000 in
/-- A row of patterns in memory, read off. -/
theorem at8_of {w : World} {g off : Nat} {L : List Tr} (h : ∀ j u, (flatT L)[j]? = some u → w.cell? ((⟨g, off, none⟩ : Addr).add j) = some u) {i : Nat} (hi : i < L.length) : At8 w g (off + i * 8) (L.getD i .nul) := by
  have key : ∀ c u, c < 8 → (cells8 (L.getD i .nul))[c]? = some u → w.cell? ⟨g, off + i * 8 + c, none⟩ = some u := fun c u hc hu => by
    have := h (i * 8 + c) u ((flatT_get L i c hi hc).trans hu)
    rw [Addr.add_lit] at this
    rw [← this, Nat.add_assoc]
  exact ⟨key 0 _ (by omega) rfl, key 1 _ (by omega) rfl, key 2 _ (by omega) rfl, key 3 _ (by omega) rfl, key 4 _ (by omega) rfl, key 5 _ (by omega) rfl, key 6 _ (by omega) rfl, key 7 _ (by omega) rfl⟩
set_option maxRecDepth 100000 in
theorem At8.list {w : World} {g o : Nat} {t : Tr} (h : At8 w g o t) : ∀ c u, (cells8 t)[c]? = some u → w.cell? ⟨g, o + c, none⟩ = some u := by
  obtain ⟨h0, h1, h2, h3, h4, h5, h6, h7⟩ := h
  intro c u hu
  have hc : c < 8 := by have := List.getElem?_eq_some_iff.1 hu; obtain ⟨q, _⟩ := this; exact q
  match c, hc with
  | 0, _ => cases hu; exact h0
  | 1, _ => cases hu; exact h1
  | 2, _ => cases hu; exact h2
  | 3, _ => cases hu; exact h3
  | 4, _ => cases hu; exact h4
  | 5, _ => cases hu; exact h5
  | 6, _ => cases hu; exact h6
  | 7, _ => cases hu; exact h7
/-- A pattern's kids. -/
def kidsL (kid : Nat → Tr) (n : Nat) : List Tr := (List.range n).map kid
set_option maxRecDepth 100000 in
theorem kidsL_succ (kid : Nat → Tr) (n : Nat) : kidsL kid (n + 1) = kidsL kid n ++ [kid n] := by simp [kidsL, List.range_succ]
set_option maxRecDepth 100000 in
theorem kidsL_len (kid : Nat → Tr) (n : Nat) : (kidsL kid n).length = n := by simp [kidsL]
set_option maxRecDepth 100000 in
theorem kids_news {w : World} {g off : Nat} {kid : Nat → Tr} : ∀ n : Nat, (∀ i, i < n → At8 w g (off + i * 8) (kid i)) → ∀ j u, (flatT (kidsL kid n))[j]? = some u → w.cell? ((⟨g, off, none⟩ : Addr).add j) = some u
  | 0, _, j, u, hu => by simp [kidsL, flatT] at hu
  | n + 1, h, j, u, hu => by
    rw [kidsL_succ, flatT_append, flatT_one] at hu
    by_cases hj : j < n * 8
    · rw [List.getElem?_append_left (by rw [flatT_len, kidsL_len]; exact hj)] at hu
      exact kids_news n (fun i hi => h i (by omega)) j u hu
    · rw [List.getElem?_append_right (by rw [flatT_len, kidsL_len]; omega), flatT_len, kidsL_len] at hu
      have := (h n (by omega)).list _ u hu
      rw [Addr.add_lit, ← this, show off + j = off + n * 8 + (j - n * 8) by omega]
/-- What one pattern gives to the joined one. -/
def partL (kind : Int) (t : Tr) : List Tr := if t.k = kind then kidsL t.kid t.n else [t]
def joinTo (kind : Int) (tt : Nat → Tr) : Nat → List Tr
  | 0 => []
  | j + 1 => joinTo kind tt j ++ partL kind (tt j)
set_option maxRecDepth 100000 in
theorem partL_len (kind : Int) (t : Tr) : (partL kind t).length ≤ t.n + 1 := by
  unfold partL; split
  · rw [kidsL_len]; omega
  · simp
def cntL (L : List Tr) : Nat := (L.map cnt).sum
set_option maxRecDepth 100000 in
theorem cntL_append (L M : List Tr) : cntL (L ++ M) = cntL L + cntL M := by simp [cntL]
set_option maxRecDepth 100000 in
theorem cntL_kids (kid : Nat → Tr) : ∀ n, cntL (kidsL kid n) = sumTo (fun i => cnt (kid i)) n
  | 0 => rfl
  | n + 1 => by rw [kidsL_succ, cntL_append, cntL_kids kid n]; simp [cntL, sumTo]
set_option maxRecDepth 100000 in
theorem kidsL_get {L : List Tr} : kidsL (fun i => L.getD i .nul) L.length = L := by
  apply List.ext_getElem?
  intro i
  simp only [kidsL, List.getElem?_map]
  by_cases hi : i < L.length
  · rw [List.getElem?_eq_getElem hi, List.getElem?_range hi]
    simp [hi]
  · rw [List.getElem?_eq_none (l := L) (by omega), List.getElem?_eq_none (by rw [List.length_range]; omega)]
    rfl
set_option maxRecDepth 100000 in
theorem kidsL_mem {kid : Nat → Tr} {n : Nat} {t : Tr} (h : t ∈ kidsL kid n) : ∃ i, i < n ∧ t = kid i := by
  obtain ⟨i, hi, rfl⟩ := List.mem_map.1 h
  exact ⟨i, List.mem_range.1 hi, rfl⟩
set_option maxRecDepth 100000 in
theorem okT_mono : ∀ {t : Tr} {lv lv' : Nat}, okT t lv = true → lv ≤ lv' → okT t lv' = true
  | .node k s lo hi a n cap kid, lv, lv', h, hl => by
    simp only [okT, Bool.and_eq_true, decide_eq_true_eq] at h ⊢
    exact ⟨by omega, h.2.1, allTo_iff.2 fun i hi => okT_mono (allTo_iff.1 h.2.2 i hi) (by omega)⟩
  | .nul, _, _, h, _ => by simp [okT] at h
set_option maxRecDepth 100000 in
theorem okT_kid {t : Tr} {lv : Nat} (h : okT t lv = true) : fitsB t = true ∧ 0 < lv ∧ ∀ i, i < t.n → okT (t.kid i) (lv - 1) = true := by
  cases t with
  | nul => simp [okT] at h
  | node k s lo hi a n cap kid =>
    simp only [okT, Bool.and_eq_true, decide_eq_true_eq] at h
    exact ⟨h.2.1, h.1, fun i hi => allTo_iff.1 h.2.2 i hi⟩
set_option maxRecDepth 100000 in
theorem fits_many_ne {t : Tr} (h : fitsB t = true) (hk : t.k = 3 ∨ t.k = 4) : 2 ≤ t.n ∧ ∀ i, i < t.n → (t.kid i).k ≠ t.k := by
  have h2 : t.k ≠ 2 := by omega
  have h1 : t.k ≠ 1 := by omega
  have h5 : t.k ≠ 5 := by omega
  simp only [fitsB, h2, h1, h5, hk, if_true, if_false, Bool.and_eq_true, decide_eq_true_eq] at h
  refine ⟨h.2.1, fun i hi e => ?_⟩
  have := anyTo_yes (p := fun i => decide ((t.kid i).k = t.k)) hi (by simp [e])
  rw [this] at h
  simp at h
set_option maxRecDepth 100000 in
/-- What is known of one pattern's part. -/
theorem part_ok {kind : Int} (hk : kind = 3 ∨ kind = 4) {t : Tr} {lv : Nat} (h : okT t lv = true) : 1 ≤ (partL kind t).length ∧ cntL (partL kind t) ≤ cnt t ∧ ∀ u ∈ partL kind t, okT u lv = true ∧ u.k ≠ kind := by
  obtain ⟨hf, hl, hkid⟩ := okT_kid h
  unfold partL
  split
  · rename_i e
    subst e
    obtain ⟨h2, hne⟩ := fits_many_ne hf hk
    refine ⟨by rw [kidsL_len]; omega, ?_, fun u hu => ?_⟩
    · rw [cntL_kids, cnt_dsc]; unfold dsc; omega
    · obtain ⟨i, hi, rfl⟩ := kidsL_mem hu
      exact ⟨okT_mono (hkid i hi) (by omega), hne i hi⟩
  · rename_i e
    refine ⟨by simp, by simp [cntL], fun u hu => ?_⟩
    rw [List.mem_singleton] at hu
    subst hu
    exact ⟨h, e⟩
set_option maxRecDepth 100000 in
theorem Lives.kids {w : World} {B : Nat} {t : Tr} (h : Lives w B t) : ∀ i, i < t.n → Lives w B (t.kid i) := by
  cases t with
  | nul => exact False.elim h
  | node k s lo hi a n cap kid => exact h.2.2.2.2
set_option maxRecDepth 100000 in
theorem part_lives {kind : Int} {t : Tr} {w : World} {B : Nat} (h : Lives w B t) : ∀ u ∈ partL kind t, Lives w B u := by
  intro u hu
  unfold partL at hu
  split at hu
  · obtain ⟨i, hi, rfl⟩ := kidsL_mem hu
    exact h.kids i hi
  · rw [List.mem_singleton] at hu; subst hu; exact h
/-- A row of patterns and the pattern that has them as its kids. -/
def rowT (kind : Int) (a : Option Addr) (cap : Nat) (L : List Tr) : Tr := .node kind z0 0 0 a L.length cap fun i => L.getD i .nul
set_option maxRecDepth 100000 in
theorem rowT_cnt (kind : Int) (a : Option Addr) (cap : Nat) (L : List Tr) : cnt (rowT kind a cap L) = 1 + cntL L := by
  unfold rowT cnt
  rw [← cntL_kids, kidsL_get]
set_option maxRecDepth 100000 in
theorem getD_mem {L : List Tr} {i : Nat} (hi : i < L.length) : L.getD i .nul ∈ L := by
  rw [List.getD_eq_getElem?_getD, List.getElem?_eq_getElem hi]; exact List.getElem_mem hi
set_option maxRecDepth 100000 in
theorem rowT_ok {kind : Int} (hk : kind = 3 ∨ kind = 4) {a : Option Addr} {cap lv : Nat} {L : List Tr} (h2 : 2 ≤ L.length) (h : ∀ u ∈ L, okT u lv = true ∧ u.k ≠ kind) : okT (rowT kind a cap L) (lv + 1) = true := by
  have hn2 : kind ≠ 2 := by omega
  have hn1 : kind ≠ 1 := by omega
  have hn5 : kind ≠ 5 := by omega
  have hany : anyTo (fun i => decide ((L.getD i .nul).k = kind)) L.length = false := by
    cases q : anyTo (fun i => decide ((L.getD i .nul).k = kind)) L.length
    · rfl
    · obtain ⟨i, hi, e⟩ := anyTo_iff.1 q
      simp only [decide_eq_true_eq] at e
      exact absurd e (h _ (getD_mem hi)).2
  have hf : fitsB (rowT kind a cap L) = true := by
    unfold fitsB
    rw [if_neg (show ¬ (rowT kind a cap L).k = 2 from hn2), if_neg (show ¬ (rowT kind a cap L).k = 1 from hn1), if_neg (show ¬ (rowT kind a cap L).k = 5 from hn5), if_pos (show (rowT kind a cap L).k = 3 ∨ (rowT kind a cap L).k = 4 from hk)]
    show (plainB z0 0 0 && (decide (2 ≤ L.length) && !anyTo (fun i => decide ((L.getD i .nul).k = kind)) L.length)) = true
    rw [hany, decide_eq_true h2]
    simp [plainB, eq_z0]
  unfold rowT at hf ⊢
  simp only [okT, hf, Bool.and_eq_true, decide_eq_true_eq]
  exact ⟨by omega, trivial, allTo_iff.2 fun i hi => (h _ (getD_mem hi)).1⟩
set_option maxRecDepth 100000 in
theorem rowT_lives {w : World} {base B : Nat} {v : Value} {L : List Tr} (kind : Int) (h : w.ownsRow base 30 8 v L.length (flatT L)) (h1 : 1 ≤ L.length) (hL : ∀ u ∈ L, Lives w B u) (hB : w.heap.size ≤ B) :
    ∃ g cap, v = .slice (some ⟨g, 0, none⟩) L.length cap ∧ base ≤ g ∧ g < w.heap.size ∧ Lives w B (rowT kind (some ⟨g, 0, none⟩) cap L) := by
  rcases h.2 with ⟨_, h0⟩ | ⟨g, cap, cur, rfl, hb, hg, h3, h4, _⟩
  · omega
  · have hgl := (Array.getElem?_eq_some_iff.1 hg).1
    refine ⟨g, cap, rfl, hb, hgl, wf_z0, h3, h4, fun _ => ⟨g, 0, rfl, by omega, fun i hi => ?_⟩, fun i hi => hL _ (getD_mem hi)⟩
    exact at8_of (fun j u hu => h.cells (g := g) rfl j u hu) hi
end Go.Proofs.Ytnfchlkdppblfaa
