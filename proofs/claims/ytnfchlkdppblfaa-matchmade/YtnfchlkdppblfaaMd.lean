/- The law's joined. -/
import Derived.Test.YtnfchlkdppblfaaMc
import Derived.Deep.RegionLaw
namespace Go.Proofs.Ytnfchlkdppblfaa
open Go.RowKit
set_option maxRecDepth 100000 in
theorem info27 : (Try.prog.info? 30).map (fun i => (i.zero, i.size, i.bytes)) = some (some (nodeV 0 z0 0 0 (.slice none 0 0)), 8, 80) := by kernel_rfl
set_option maxRecDepth 100000 in
/-- The box that the kids are stored into, and the row that they are read from. -/
theorem keepMj {w w1 : World} {x g o : Nat} {kind : Int} {v v7 : Value} {row : Option Nat} (h : w.heap[x]? = some (.cells (row8 kind z0 0 0 v) 30 (0, 0))) (hg : w.cell? ⟨g, o, none⟩ = some v7) (hG : w.grownBy w1 row) (hx : some x ≠ row) (hgr : some g ≠ row) :
    w1.cell? ⟨x, 7, none⟩ = some v ∧ w1.frozen? ⟨x, 7, none⟩ = false ∧ w1.cell? ⟨g, o, none⟩ = some v7 := by
  have h' := (hG.block x (Array.getElem?_eq_some_iff.1 h).1 hx).trans h
  exact ⟨cell_of_row w1 x 7 _ _ _ h', frozen_of_row _ _ 7 _ _ h', hG.cell hg hgr⟩
set_option maxRecDepth 100000 in
theorem keepF {w w1 : World} {x c : Nat} {cs : Array Value} {row : Option Nat} (h : w.heap[x]? = some (.cells cs 30 (0, 0))) (hG : w.grownBy w1 row) (hx : some x ≠ row) : w1.frozen? ⟨x, c, none⟩ = false :=
  frozen_of_row _ _ c _ _ ((hG.block x (Array.getElem?_eq_some_iff.1 h).1 hx).trans h)
set_option maxRecDepth 100000 in
theorem keepFC {w w1 : World} {x : Nat} {kind : Int} {v : Value} {row : Option Nat} (h : w.heap[x]? = some (.cells (row8 kind z0 0 0 v) 30 (0, 0))) (hG : w.grownBy w1 row) (hx : some x ≠ row) : w1.cell? ⟨x, 7, none⟩ = some v ∧ w1.frozen? ⟨x, 7, none⟩ = false :=
  ⟨cell_of_row w1 x 7 _ _ _ ((hG.block x (Array.getElem?_eq_some_iff.1 h).1 hx).trans h), keepF h hG hx⟩
set_option maxRecDepth 100000 in
theorem keepF' {w w1 : World} {x c c' : Nat} {cs : Array Value} {row : Option Nat} {u : Value} (h : w.heap[x]? = some (.cells cs 30 (0, 0))) (hG : w.grownBy w1 row) (hx : some x ≠ row) : (w1.setCell ⟨x, c', none⟩ u).frozen? ⟨x, c, none⟩ = false :=
  frozen_of_row _ _ c _ _ (heap_setCell_same _ x c' _ _ u ((hG.block x (Array.getElem?_eq_some_iff.1 h).1 hx).trans h))
/-- After j of the two patterns. -/
structure JI (w : World) (kind : Int) (tt : Nat → Tr) (j : Nat) (v : Value) (wr : World) : Prop where
  res : wr.heap[w.heap.size]? = some (.cells (row8 0 z0 0 0 (.slice none 0 0)) 30 (0, 0))
  box : wr.heap[w.heap.size + 1]? = some (.cells (row8 kind z0 0 0 v) 30 (0, 0))
  own : wr.ownsRow (w.heap.size + 2) 30 8 v (joinTo kind tt j).length (flatT (joinTo kind tt j))
  size : w.heap.size + 2 ≤ wr.heap.size
  below : Below w.heap.size w wr
set_option maxRecDepth 100000 in
theorem own_setCell {w : World} {base e n : Nat} {v : Value} {xs : List Value} {x c : Nat} {u : Value} (h : w.ownsRow base e 8 v n xs) (hx : x < base) : (w.setCell ⟨x, c, none⟩ u).ownsRow base e 8 v n xs := by
  refine h.kept (row := some x) ⟨rfl, rfl, rfl, by simp, fun k _ hk => Below.heap_setCell _ _ _ _ fun e => hk (by rw [e])⟩ ?_
  right
  intro e
  have := (h.lt _ e).1
  omega
set_option maxRecDepth 100000 in
/-- One part more. -/
theorem JI.next {w : World} {kind : Int} {tt : Nat → Tr} {j : Nat} {v v1 : Value} {wr w1 : World} (h : JI w kind tt j v wr) (hg : wr.grownBy w1 v.ownBlock) (hown : w1.ownsRow (w.heap.size + 2) 30 8 v1 (joinTo kind tt (j + 1)).length (flatT (joinTo kind tt (j + 1)))) :
    JI w kind tt (j + 1) v1 (w1.setCell ⟨w.heap.size + 1, 7, none⟩ v1) := by
  have hne : ∀ k, k < w.heap.size + 2 → some k ≠ v.ownBlock := fun k hk e => by have := (h.own.lt _ e.symm).1; omega
  have hb1 : Below w.heap.size w w1 := h.below.trans ((grown_below h.own h.size hg).mono (by omega))
  have hbx := (hg.block (w.heap.size + 1) (by have := h.size; omega) (hne _ (by omega))).trans h.box
  have hset := heap_setCell_same _ _ 7 _ _ v1 hbx
  refine ⟨?_, ?_, own_setCell hown (by omega), ?_, hb1.setCell (show w.heap.size ≤ w.heap.size + 1 by omega) _⟩
  · rw [Below.heap_setCell _ _ _ _ (by show w.heap.size ≠ w.heap.size + 1; omega)]
    exact (hg.block _ (by have := h.size; omega) (hne _ (by omega))).trans h.res
  · rw [hset]; simp
  · simp; have := hg.size; have := h.size; omega
set_option maxRecDepth 100000 in
set_option maxHeartbeats 4000000 in
theorem joined_any (kind : Int) (w : World) (g off cap : Nat) (tt : Nat → Tr) (hg : g < w.heap.size) (h2 : ∀ i, i < 2 → At8 w g (off + i * 8) (tt i)) (hL : ∀ i, i < 2 → Lives w w.heap.size (tt i)) (hnn : ∀ i, i < 2 → (tt i).n ≤ 1000) (hn0 : ∀ i, i < 2 → (tt i).k = kind → 0 < (tt i).n) :
    Calls Try.prog 27 #[.int .i64 kind, .slice (some ⟨g, off, none⟩) 2 cap] w fun e w' => ∃ v, e = .returned (nodeV kind z0 0 0 v) ∧ w'.ownsRow w.heap.size 30 8 v (joinTo kind tt 2).length (flatT (joinTo kind tt 2)) ∧ Below w.heap.size w w' := by
  obtain ⟨i0, hi, hz0, hz1, hz2⟩ := info_parts info27
  have H2 := Lib.hid h2
  have HL := Lib.hid hL
  have HN := Lib.hid hnn
  have H0 := Lib.hid hn0
  have HLEN := Lib.hid (show ∀ j, j ≤ 2 → (joinTo kind tt j).length ≤ j * 1001 from fun j hj => by
    induction j with
    | zero => simp [joinTo]
    | succ j ih => have := ih (by omega); have := partL_len kind (tt j); have := hnn j (by omega); rw [joinTo, List.length_append]; omega)
  clear h2 hL hnn hn0
  go_enter Try.func27, Try.ntmps27
  go_wp2
  go_loopw [6] (fun c wr => ∃ j : Nat, j ≤ 2 ∧ c = .int .i64 j ∧ ∃ v, Hid (JI w kind tt j v wr)) (fun c _ => 2 - (intOf c).toNat)
  case atStart =>
    refine ⟨0, by omega, rfl, .slice none 0 0, Lib.hid ⟨?_, ?_, ?_, ?_, ?_⟩⟩
    · exact (Below.heap_alloc _ _ _ (by simp)).trans (heap_alloc_new _ _)
    · exact (by simpa using heap_alloc_new (w.alloc (.cells (row8 0 z0 0 0 (.slice none 0 0)) 30)) (.cells (row8 kind z0 0 0 (.slice none 0 0)) 30))
    · exact World.ownsRow_nil _ _ _ _
    · simp
    · exact (alloc_below _ _).alloc (by simp) _
  case round =>
    obtain ⟨j, hj, rfl, v, HJ⟩ := hrel
    by_cases hlt : j < 2
    · have hA := (H2.out j hlt).below hg HJ.out.below
      have HA := Lib.hid hA
      have HLJ := Lib.hid ((HL.out j hlt).below HJ.out.below)
      have hnj := HN.out j hlt
      have h0j := H0.out j hlt
      have hlen := HLEN.out j hj
      have hsucc : joinTo kind tt (j + 1) = joinTo kind tt j ++ partL kind (tt j) := rfl
      have hjI : (j : Int) < 2 := by omega
      obtain ⟨t, ht⟩ : ∃ t, t = tt j := ⟨_, rfl⟩
      rw [← ht] at hA HA HLJ hnj h0j hsucc
      clear ht
      have HX := Lib.hid HJ.out.own
      obtain ⟨L, hLL⟩ : ∃ L, L = joinTo kind tt j := ⟨_, rfl⟩
      rw [← hLL] at HX hsucc hlen
      have HLL := Lib.hid hLL
      clear hLL
      obtain ⟨av, cv, rfl⟩ := row_slice HX.out
      obtain ⟨c0, c1, c2, c3, c4, c5, c6, c7⟩ := hA
      have hne : ∀ k, k < w.heap.size + 2 → some k ≠ (Value.slice av L.length cv).ownBlock := fun k hk e => by have := (HX.out.lt _ e.symm).1; omega
      by_cases hkk : t.k = kind
      · rw [hkk] at c0
        obtain ⟨gk, ok, hak, hgk, hkc⟩ : ∃ gk ok, t.a = some ⟨gk, ok, none⟩ ∧ gk < w.heap.size ∧ ∀ i, i < t.n → At8 wr gk (ok + i * 8) (t.kid i) := by
          have h0 := h0j hkk
          have := HLJ.out
          cases t with
          | nul => exact False.elim this
          | node k s lo hi a n cap kid => exact this.2.2.2.1 h0
        rw [hak] at c7
        have HKC := Lib.hid hkc
        obtain ⟨d7, f7, _⟩ := keepMj HJ.out.box c7 (grownBy_refl wr (Value.slice av L.length cv).ownBlock) (hne _ (by omega)) (hne _ (by omega))
        clear hkc
        have HNE := Lib.hid (show partL kind t = kidsL t.kid t.n by unfold partL; rw [if_pos hkk])
        have HC7 := Lib.hid c7
        have HNEE := Lib.hid hne
        go_wp2_with fail
        go_region_law
          (first
            | (refine step_append_own (by rfl) (.tmp 23) (.tmp 28) 28 (by rfl) (w.heap.size + 2) 30 i0 _ 8 80 Try.underlying28 hi hz0 hz1 hz2 rfl (by omega) (.slice av L.length cv) L.length (flatT L) (by rfl) (show World.ownsRow wr.drew _ _ _ _ _ _ from HX.out) ⟨gk, ok, none⟩ t.n t.cap (flatT (kidsL t.kid t.n)) (by rfl) (by rw [flatT_len, kidsL_len]) (kids_news t.n HKC.out) (flatT_one_cell _) (by unfold maxLen; omega) (by omega) HJ.out.size ?_; intro v1 w1 hown1 hgrow hnil; obtain ⟨a1, cp1, rfl⟩ := row_slice hown1; obtain ⟨d7', f7'⟩ := keepFC HJ.out.box (grownBy_trans (grownBy_drew _ _) hgrow) (hne _ (by omega))))
        all_goals
         have hJ := HJ.out.next (v1 := .slice a1 (L.length + t.n) cp1) (grownBy_trans (grownBy_drew _ _) hgrow) (by rw [hsucc, HNE.out, flatT_append, List.length_append, kidsL_len]; exact hown1)
         go_wp2
         go_roundw
         case rel => exact ⟨j + 1, by omega, by go_num, _, Lib.hid hJ⟩
         case measure => simp [intOf]; omega
      · have hkf : (t.k == kind) = false := by simp [hkk]
        have HNE := Lib.hid (show partL kind t = [t] by unfold partL; rw [if_neg hkk])
        obtain ⟨d7, f7, _⟩ := keepMj HJ.out.box c7 (grownBy_refl wr (Value.slice av L.length cv).ownBlock) (hne _ (by omega)) (hne _ (by omega))
        have d7a : ∀ o, (wr.alloc o).cell? ⟨w.heap.size + 1, 7, none⟩ = some (.slice av L.length cv) := fun o => (alloc_below wr o).cell (p := ⟨w.heap.size + 1, 7, none⟩) (show w.heap.size + 1 < wr.heap.size by have := HJ.out.size; omega) |>.trans d7
        go_wp2_with fail
        go_region_law
          (first
            | (refine step_append_own (by rfl) (.tmp 32) (.tmp 37) 28 (by rfl) (w.heap.size + 2) 30 i0 _ 8 80 Try.underlying28 hi hz0 hz1 hz2 rfl (by omega) (.slice av L.length cv) L.length (flatT L) (by rfl) (World.ownsRow.alloc (w := wr.drew) HX.out _) ⟨wr.heap.size, 0, none⟩ 1 1 (cells8 t) (by rfl) (by rfl) (World.news_of_block (cs := row8 t.k t.s t.lo t.hi (.slice t.a t.n t.cap)) (t := 30) (fr := (0, 0)) (heap_alloc_new wr.drew _)) (by have := flatT_one_cell [t]; rwa [flatT_one] at this) (by unfold maxLen; omega) (by omega) (by simp; have := HJ.out.size; omega) ?_; intro v1 w1 hown1 hgrow hnil; obtain ⟨a1, cp1, rfl⟩ := row_slice hown1; obtain ⟨d7', f7'⟩ := keepFC HJ.out.box (grownBy_trans (grownBy_trans (grownBy_drew _ _) (World.grownBy_alloc _ _ _)) hgrow) (hne _ (by omega))))
        all_goals
         have hJ := HJ.out.next (v1 := .slice a1 (L.length + 1) cp1) (grownBy_trans (grownBy_trans (grownBy_drew _ _) (World.grownBy_alloc _ _ _)) hgrow) (by rw [hsucc, HNE.out, flatT_append, List.length_append, flatT_one]; exact hown1)
         go_wp2
         go_roundw
         case rel => exact ⟨j + 1, by omega, by go_num, _, Lib.hid hJ⟩
         case measure => simp [intOf]; omega
    · obtain rfl : j = 2 := by omega
      obtain ⟨d0, d1, d2, d3, d4, d5, d6, d7⟩ := cell8 (s := z0) HJ.out.box
      obtain ⟨av, cv, rfl⟩ := row_slice HJ.out.own
      obtain ⟨f0, f1, f2, f3, f4, f5, f6, f7⟩ := frozen8 (s := z0) HJ.out.res
      obtain ⟨e0, e1, e2, e3, e4, e5, e6, e7⟩ := cell8 (s := z0) HJ.out.res
      have HR := Lib.hid (stored8 kind z0 0 0 (.slice av (joinTo kind tt 2).length cv) HJ.out.res)
      go_wp2
      refine bodyPost_ret (v := nodeV kind z0 0 0 (.slice av (joinTo kind tt 2).length cv)) (ret8 (s := z0) Try.results27 rfl HR.out) rfl ⟨_, rfl, ?_, HJ.out.below.trans (put8_below wr (Nat.le_refl _) _ z0 _ _ _)⟩
      have hO : (put8 wr w.heap.size kind z0 0 0 (.slice av (joinTo kind tt 2).length cv)).ownsRow (w.heap.size + 2) 30 8 (.slice av (joinTo kind tt 2).length cv) (joinTo kind tt 2).length (flatT (joinTo kind tt 2)) :=
        own_setCell (own_setCell (own_setCell (own_setCell (own_setCell (own_setCell (own_setCell (own_setCell HJ.out.own (by omega)) (by omega)) (by omega)) (by omega)) (by omega)) (by omega)) (by omega)) (by omega)
      obtain ⟨h1, h2 | ⟨g', cap', cur, hv, hg', rest⟩⟩ := hO
      · exact ⟨h1, Or.inl h2⟩
      · exact ⟨h1, Or.inr ⟨g', cap', cur, hv, by omega, rest⟩⟩
end Go.Proofs.Ytnfchlkdppblfaa
