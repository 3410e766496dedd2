/- The landed code's join. -/
import Derived.Test.YtnloepanbjgbaaaGreatDoorQe
namespace Go.Proofs.YtnloepanbjgbaaaGreatDoor
open Go.RowKit
/-- After j of the patterns. -/
structure JnI (w : World) (kind : Int) (tt : Nat → Tr) (j : Nat) (v : Value) (wr : World) : Prop where
  res : wr.heap[w.heap.size]? = some (.cells (row8 0 z0 0 0 (.slice none 0 0)) 31 (0, 0))
  own : wr.ownsRow (w.heap.size + 1) 31 8 v (joinTo kind tt j).length (flatT (joinTo kind tt j))
  size : w.heap.size + 1 ≤ wr.heap.size
  below : Below w.heap.size w wr
/-- What join makes of patterns. -/
def JnT (kind : Int) (n : Nat) (tt : Nat → Tr) (B : Nat) (x : Tr) : Prop :=
  (n = 0 ∧ x = lfT 1 z0) ∨ (n = 1 ∧ x = tt 0) ∨ (2 ≤ n ∧ ∃ g cap, B ≤ g ∧ x = rowT kind (some ⟨g, 0, none⟩) cap (joinTo kind tt n))
def PJ (w : World) (kind : Int) (n : Nat) (tt : Nat → Tr) (e : Ending) (w' : World) : Prop :=
  ∃ x : Tr, e = .returned x.val ∧ JnT kind n tt w.heap.size x ∧ Lives w' w'.heap.size x ∧ Below w.heap.size w w'
theorem joinTo_len (kind : Int) (tt : Nat → Tr) (n : Nat) (h : ∀ i, i < n → (tt i).n ≤ 20000) : ∀ j, j ≤ n → (joinTo kind tt j).length ≤ j * 20001 := by
  intro j hj
  induction j with
  | zero => simp [joinTo]
  | succ j ih => have := ih (by omega); have := partL_len kind (tt j); have := h j (by omega); rw [joinTo, List.length_append]; omega
theorem joinTo_lives {kind : Int} {tt : Nat → Tr} {w : World} {B : Nat} : ∀ {n : Nat}, (∀ i, i < n → Lives w B (tt i)) → ∀ u ∈ joinTo kind tt n, Lives w B u
  | 0, _, u, hu => by simp [joinTo] at hu
  | n + 1, h, u, hu => by
    rw [joinTo, List.mem_append] at hu
    rcases hu with hu | hu
    · exact joinTo_lives (fun i hi => h i (by omega)) u hu
    · exact part_lives (h n (by omega)) u hu
theorem JnI.next {w : World} {kind : Int} {tt : Nat → Tr} {j : Nat} {v v1 : Value} {wr w1 : World} (h : JnI w kind tt j v wr) (hg : wr.grownBy w1 v.ownBlock) (hown : w1.ownsRow (w.heap.size + 1) 31 8 v1 (joinTo kind tt (j + 1)).length (flatT (joinTo kind tt (j + 1)))) : JnI w kind tt (j + 1) v1 w1 := by
  have hne : ∀ k, k < w.heap.size + 1 → some k ≠ v.ownBlock := fun k hk e => by have := (h.own.lt _ e.symm).1; omega
  exact ⟨(hg.block _ (by have := h.size; omega) (hne _ (by omega))).trans h.res, hown, Nat.le_trans h.size hg.size, h.below.trans ((grown_below h.own h.size hg).mono (by omega))⟩
theorem two_newb (w : World) (A B : Obj) : ((w.alloc A).alloc B).heap[w.heap.size + 1]? = some B := by
  have := heap_alloc_new (w.alloc A) B; simpa using this
theorem joinTo_pos {kind : Int} {tt : Nat → Tr} {n : Nat} (h : 0 < n) (h0 : ∀ i, i < n → (tt i).k = kind → 0 < (tt i).n) : 1 ≤ (joinTo kind tt n).length := by
  obtain ⟨m, rfl⟩ : ∃ m, n = m + 1 := ⟨n - 1, by omega⟩
  rw [joinTo, List.length_append]
  have : 1 ≤ (partL kind (tt m)).length := by
    unfold partL
    split
    · rename_i e; rw [kidsL_len]; exact h0 m (by omega) e
    · simp
  omega
/-- The row is made, and the result's box is written. -/
theorem join_fin {w wr : World} {kind : Int} {tt : Nat → Tr} {n : Nat} {av : Option Addr} {cv : Nat} (h2 : 2 ≤ n) (hJ : JnI w kind tt n (.slice av (joinTo kind tt n).length cv) wr) (hL : ∀ i, i < n → Lives w w.heap.size (tt i)) (h0 : ∀ i, i < n → (tt i).k = kind → 0 < (tt i).n) :
    PJ w kind n tt (.returned (nodeV kind z0 0 0 (.slice av (joinTo kind tt n).length cv))) (put8 wr w.heap.size kind z0 0 0 (.slice av (joinTo kind tt n).length cv)) := by
  have hlv : ∀ u ∈ joinTo kind tt n, Lives wr wr.heap.size u := joinTo_lives fun i hi => (hL i hi).now hJ.below
  obtain ⟨g, cap, hv, hg, hgl, hLr⟩ := rowT_lives kind hJ.own (joinTo_pos (by omega) h0) hlv (Nat.le_refl _)
  injection hv with h1 h2' h3
  subst h1 h3
  refine ⟨rowT kind (some ⟨g, 0, none⟩) cv (joinTo kind tt n), rfl, Or.inr (Or.inr ⟨h2, g, cv, by omega, rfl⟩), ?_, hJ.below.trans (put8_below wr (Nat.le_refl _) kind z0 0 0 _)⟩
  rw [put8_size]
  have hB := hJ.below
  refine ⟨wf_z0, hLr.2.1, hLr.2.2.1, fun hp => ⟨g, 0, rfl, hgl, fun i hi => ?_⟩, fun i hi => ?_⟩
  · obtain ⟨g', off', ha', _, hc'⟩ := hLr.2.2.2.1 hp
    injection ha' with ha'
    injection ha' with q1 q2 q3
    subst q1 q2
    have key : ∀ o : Nat, (put8 wr w.heap.size kind z0 0 0 (.slice (some ⟨g, 0, none⟩) (joinTo kind tt n).length cv)).cell? ⟨g, o, none⟩ = wr.cell? ⟨g, o, none⟩ := fun o => World.cell?_of_block (put8_other wr w.heap.size g kind z0 0 0 _ (by omega))
    obtain ⟨k0, k1, k2, k3, k4, k5, k6, k7⟩ := hc' i hi
    exact ⟨(key _).trans k0, (key _).trans k1, (key _).trans k2, (key _).trans k3, (key _).trans k4, (key _).trans k5, (key _).trans k6, (key _).trans k7⟩
  · have hu : (joinTo kind tt n).getD i .nul ∈ joinTo kind tt n := getD_mem hi
    have hold : ∀ u ∈ joinTo kind tt n, Lives w w.heap.size u := joinTo_lives hL
    exact ((hold _ hu).below (hJ.below.trans (put8_below wr (Nat.le_refl _) kind z0 0 0 _))).mono (Nat.le_trans (by have := hJ.size; omega) (Nat.le_refl wr.heap.size))
set_option maxRecDepth 100000 in
set_option maxHeartbeats 4000000 in
theorem join_any (kind : Int) (w : World) (a : Option Addr) (n cap : Nat) (tt : Nat → Tr) (hn : n ≤ 20000) (hat : 0 < n → ∃ g off, a = some ⟨g, off, none⟩ ∧ g < w.heap.size ∧ ∀ i, i < n → At8 w g (off + i * 8) (tt i)) (hL : ∀ i, i < n → Lives w w.heap.size (tt i)) (hnn : ∀ i, i < n → (tt i).n ≤ 20000) (hn0 : ∀ i, i < n → (tt i).k = kind → 0 < (tt i).n) :
    Calls Tryz.prog 65 #[.int .i64 kind, .slice a n cap] w (PJ w kind n tt) := by
  have hbq := alloc_below w (.cells (row8 0 z0 0 0 (.slice none 0 0)) 31)
  rcases (show n = 0 ∨ n = 1 ∨ 2 ≤ n by omega) with h0 | h1 | h2
  · subst h0
    clear hat hL hnn hn0 hbq
    go_enter Tryz.func65, Tryz.ntmps65
    go_wp2
    exact bodyPost_ret (v := nodeV 1 z0 0 0 (.slice none 0 0)) (ret8 Tryz.results65 rfl (heap_alloc_new w _)) rfl ⟨lfT 1 z0, rfl, Or.inl ⟨rfl, rfl⟩, (lf_ok (Or.inl ⟨rfl, rfl⟩)).2.2 _ _, alloc_below _ _⟩
  · subst h1
    obtain ⟨g, off, rfl, hg, h8⟩ := hat (by omega)
    have h8 := h8 0 (by omega)
    obtain ⟨t, ht⟩ : ∃ t, t = tt 0 := ⟨_, rfl⟩
    rw [← ht, Nat.zero_mul, Nat.add_zero] at h8
    obtain ⟨c0, c1, c2, c3, c4, c5, c6, c7⟩ := h8
    have HX := Lib.hid (show PJ w kind 1 tt (.returned (nodeV t.k t.s t.lo t.hi (.slice t.a t.n t.cap))) (w.alloc (.cells (row8 t.k t.s t.lo t.hi (.slice t.a t.n t.cap)) 31)) from ⟨t, rfl, Or.inr (Or.inl ⟨rfl, ht⟩), by rw [ht]; exact (hL 0 (by omega)).now (alloc_below _ _), alloc_below _ _⟩)
    clear hat hL hnn hn0 hbq ht
    go_enter Tryz.func65, Tryz.ntmps65
    go_wp2
    exact bodyPost_ret (v := nodeV t.k t.s t.lo t.hi (.slice t.a t.n t.cap)) (ret8 Tryz.results65 rfl (heap_alloc_new w _)) rfl HX.out
  · obtain ⟨i0, hi, hz0, hz1, hz2⟩ := info_parts info27
    obtain ⟨g, off, rfl, hg, h8⟩ := hat (by omega)
    have H8 := Lib.hid h8
    have HL := Lib.hid hL
    have HN := Lib.hid hnn
    have H0 := Lib.hid hn0
    have HLEN := Lib.hid (joinTo_len kind tt n hnn)
    have e0 : decide ((n : Int) = 0) = false := by simp; omega
    have e1 : ((n : Int) == 0) = false := by simp; omega
    have e2 : ((n : Int) == 1) = false := by simp; omega
    have e3 : (n == 0) = false := by simp; omega
    have e4 : (n == 1) = false := by simp; omega
    clear hat h8 hL hnn hn0 hbq
    go_enter Tryz.func65, Tryz.ntmps65
    go_wp2
    clear e0 e1 e2 e3 e4
    go_loopw [5, 20] (fun v c wr => ∃ j : Nat, j ≤ n ∧ c = .int .i64 j ∧ Hid (JnI w kind tt j v wr)) (fun _ c _ => n - (intOf c).toNat)
    case atStart => exact ⟨0, by omega, rfl, Lib.hid ⟨heap_alloc_new _ _, World.ownsRow_nil _ _ _ _, by simp, alloc_below _ _⟩⟩
    case round =>
      obtain ⟨j, hj, rfl, HJ⟩ := hrel
      by_cases hlt : j < n
      · have hA := (H8.out j hlt).below hg HJ.out.below
        have HLJ := Lib.hid ((HL.out j hlt).below HJ.out.below)
        have hnj := HN.out j hlt
        have h0j := H0.out j hlt
        have hlen := HLEN.out j hj
        have HSU := Lib.hid (show joinTo kind tt (j + 1) = joinTo kind tt j ++ partL kind (tt j) from rfl)
        obtain ⟨t, ht⟩ : ∃ t, t = tt j := ⟨_, rfl⟩
        rw [← ht] at hA HLJ hnj h0j HSU
        clear ht
        have HX := Lib.hid HJ.out.own
        obtain ⟨L, hLL⟩ : ∃ L, L = joinTo kind tt j := ⟨_, rfl⟩
        rw [← hLL] at HX HSU hlen
        clear hLL
        have hgr := HJ.out.below.size
        have hgw : g < wr.heap.size := by omega
        have hsz := HJ.out.size
        obtain ⟨av, cv, rfl⟩ := row_slice HX.out
        obtain ⟨c0, c1, c2, c3, c4, c5, c6, c7⟩ := hA
        by_cases hkk : t.k = kind
        · rw [hkk] at c0
          obtain ⟨gk, ok, hak, hgk, hkc⟩ : ∃ gk ok, t.a = some ⟨gk, ok, none⟩ ∧ gk < w.heap.size ∧ ∀ i, i < t.n → At8 wr gk (ok + i * 8) (t.kid i) := by
            have h0 := h0j hkk
            have := HLJ.out
            cases t with
            | nul => exact False.elim this
            | node k s lo hi a n cap kid => exact this.2.2.2.1 h0
          rw [hak] at c7
          have HKC := Lib.hid (fun i hi => (hkc i hi).below (Nat.lt_of_lt_of_le hgk hgr) (alloc_below wr (.cells (row8 kind t.s t.lo t.hi (.slice (some ⟨gk, ok, none⟩) t.n t.cap)) 31)))
          have HNE := Lib.hid (show partL kind t = kidsL t.kid t.n by unfold partL; rw [if_pos hkk])
          have HXA := Lib.hid (World.ownsRow.alloc HX.out (.cells (row8 kind t.s t.lo t.hi (.slice (some ⟨gk, ok, none⟩) t.n t.cap)) 31))
          clear hkc hak h0j
          go_wp2_with (first | (at_builtin; refine wpList_append_own _ rfl _ _ 29 rfl (w.heap.size + 1) 31 i0 _ 8 80 Tryz.underlying29 hi hz0 hz1 hz2 rfl (by decide) _ _ _ rfl HXA.out ⟨gk, ok, none⟩ t.n t.cap (flatT (kidsL t.kid t.n)) rfl (by rw [flatT_len, kidsL_len]) ?c1 ?c2 ?c3 ?c4 ?c5 ?_))
          case c1 => exact kids_news t.n HKC.out
          case c2 => exact flatT_one_cell _
          case c3 => unfold maxLen; omega
          case c4 => omega
          case c5 => simp; omega
          · intro v1 w1 hown1 hgrow _
            obtain ⟨a1, cp1, rfl⟩ := row_slice hown1
            have HJ2 := Lib.hid (HJ.out.next (v1 := .slice a1 (L.length + t.n) cp1) (gtrans (World.grownBy_alloc _ _ _) hgrow) (by rw [HSU.out, HNE.out, flatT_append, List.length_append, kidsL_len]; exact hown1))
            clear hown1 hgrow
            go_wp2
            go_roundw
            case rel => exact ⟨j + 1, by omega, by go_num, HJ2⟩
            case measure => simp [intOf]; omega
        · have hkf : (t.k == kind) = false := by simp [hkk]
          have HNE := Lib.hid (show partL kind t = [t] by unfold partL; rw [if_neg hkk])
          have HXA := Lib.hid (World.ownsRow.alloc (World.ownsRow.alloc HX.out (.cells (row8 t.k t.s t.lo t.hi (.slice t.a t.n t.cap)) 31)) (.cells (row8 t.k t.s t.lo t.hi (.slice t.a t.n t.cap)) 31))
          clear h0j
          go_wp2_with (first | (at_builtin; refine wpList_append_own _ rfl _ _ 29 rfl (w.heap.size + 1) 31 i0 _ 8 80 Tryz.underlying29 hi hz0 hz1 hz2 rfl (by decide) _ _ _ rfl HXA.out ⟨wr.heap.size + 1, 0, none⟩ 1 1 (cells8 t) rfl rfl ?d1 ?d2 ?d3 ?d4 ?d5 ?_))
          case d1 => exact World.news_of_block (cs := row8 t.k t.s t.lo t.hi (.slice t.a t.n t.cap)) (t := 31) (fr := (0, 0)) (two_newb wr _ _)
          case d2 => have := flatT_one_cell [t]; rwa [flatT_one] at this
          case d3 => unfold maxLen; omega
          case d4 => omega
          case d5 => simp; omega
          · intro v1 w1 hown1 hgrow _
            obtain ⟨a1, cp1, rfl⟩ := row_slice hown1
            have HJ2 := Lib.hid (HJ.out.next (v1 := .slice a1 (L.length + 1) cp1) (gtrans (gtrans (World.grownBy_alloc _ _ _) (World.grownBy_alloc _ _ _)) hgrow) (by rw [HSU.out, HNE.out, flatT_append, List.length_append, flatT_one]; exact hown1))
            clear hown1 hgrow
            go_wp2
            go_roundw
            case rel => exact ⟨j + 1, by omega, by go_num, HJ2⟩
            case measure => simp [intOf]; omega
      · obtain rfl : n = j := by omega
        obtain ⟨av, cv, rfl⟩ := row_slice HJ.out.own
        obtain ⟨f0, f1, f2, f3, f4, f5, f6, f7⟩ := frozen8 (s := z0) HJ.out.res
        obtain ⟨e0, e1, e2, e3, e4, e5, e6, e7⟩ := cell8 (s := z0) HJ.out.res
        have HR := Lib.hid (stored8 kind z0 0 0 (.slice av (joinTo kind tt n).length cv) HJ.out.res)
        have HF := Lib.hid (join_fin h2 HJ.out HL.out H0.out)
        go_wp2
        exact bodyPost_ret (v := nodeV kind z0 0 0 (.slice av (joinTo kind tt n).length cv)) (ret8 Tryz.results65 rfl HR.out) rfl HF.out
end Go.Proofs.YtnloepanbjgbaaaGreatDoor
