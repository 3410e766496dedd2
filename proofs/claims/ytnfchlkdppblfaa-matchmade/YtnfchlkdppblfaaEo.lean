/- Contract of kidsOf. -/
import Derived.Test.YtnfchlkdppblfaaEn
namespace Go.Proofs.Ytnfchlkdppblfaa
open Go.RowKit Go.Maps Go
theorem sumTo_mem {f : Nat → Nat} : ∀ {n i : Nat}, i < n → f i ≤ sumTo f n
  | 0, i, h => by omega
  | n + 1, i, h => by
    rcases Nat.lt_or_ge i n with q | q
    · have := sumTo_mem (f := f) q; simp only [sumTo]; omega
    · rw [show i = n by omega]; simp only [sumTo]; omega
theorem cnt_kid {t : Tr} {i : Nat} (hi : i < t.n) : cnt (t.kid i) ≤ cnt t := by
  have := sumTo_mem (f := fun i => cnt (t.kid i)) hi
  rw [cnt_dsc t]; unfold dsc; omega
theorem two_newb (w : World) (A B : Obj) : ((w.alloc A).alloc B).heap[w.heap.size + 1]? = some B := by
  have := heap_alloc_new (w.alloc A) B; simpa using this
theorem KidsI.start (S : ByteArray) (t : Tr) (P : Nat → Prop) (w : World) (o : Obj) : KidsI S t P w 0 (.slice none 0 0) [] (w.alloc o) where
  row := SRow.nil _ _ _ _
  bel := alloc_below _ _
  sz := by simp
  len := Nat.le_refl _
  ch := rfl
  al i j := by simp
  nz _ p hp := by omega
set_option maxRecDepth 100000 in
set_option maxHeartbeats 4000000 in
theorem kidsOf_any (S : ByteArray) (t : Tr) (IH : ∀ i, i < t.n → WrOk S (t.kid i)) (w : World) (P : Nat → Prop) (hL : Lives w w.heap.size t) (hf : fitT t = true) (hc : cnt t ≤ 2000) (hP : ∀ g, w.heap.size ≤ g → P g) (hn0 : 0 < t.n) :
    Calls Try.prog 34 #[t.val] w fun e w' => ∃ v L, e = .returned v ∧ KidsI S t P w t.n v L w' := by
  obtain ⟨i0, hi, hz0, hz1, hz2⟩ := info_parts info51
  cases t with
  | nul => exact hL.elim
  | node k s lo hi' a n cap kid =>
  obtain ⟨T, hT⟩ : ∃ T, T = Tr.node k s lo hi' a n cap kid := ⟨_, rfl⟩
  obtain ⟨ga, off, rfl, hga, hk8⟩ := hL.2.2.2.1 hn0
  have hnc := hL.2.1
  have hcm := hL.2.2.1
  have hnb : n ≤ 2000 := by
    have := sumTo_ge (f := fun i => cnt (kid i)) (fun i => cnt_pos _) n
    have e : cnt (.node k s lo hi' (some ⟨ga, off, none⟩) n cap kid) = 1 + sumTo (fun i => cnt (kid i)) n := rfl
    omega
  have HW : Hid (∀ q v L wr, KidsI S T P w q v L wr → q < n → ∀ o, Calls Try.prog 19 #[(kid q).val] (wr.alloc o) fun e w' => ∃ u : St, e = .returned u.val ∧ Built wr.heap.size (fun g => P g ∧ some g ≠ v.ownBlock) w' u ∧ rel (nx S) S.size u = mt (nx S) S.size (T.kid q) ∧ (u.k = 1 → mt (nx S) S.size (T.kid q) = (fun i j => i = j) ∧ sz (T.kid q) = 0) ∧ Below wr.heap.size wr w') := Lib.hid fun q v L wr h hq o => by
    have hb := h.bel.trans ((alloc_below wr o).mono h.bel.size)
    refine (IH q hq (wr.alloc o) (fun g => P g ∧ some g ≠ v.ownBlock) (((hL.2.2.2.2 q hq).below hb).mono hb.size) (fitT_kid hf hq) (Nat.le_trans (cnt_kid (t := .node k s lo hi' (some ⟨ga, off, none⟩) n cap kid) hq) hc) (fun g hg => ⟨hP g (by simp at hg; have := h.bel.size; omega), fun e => by have := (h.row.own.lt _ e.symm).2; simp at hg; omega⟩)).mono ?_
    rintro e w' ⟨u, rfl, hu, hr, hk, hb'⟩
    rw [hT]
    exact ⟨u, rfl, hu.low (by simp), hr, (fun e => ⟨mt_zero _ _ (fitT_kid hf hq) (hk.1 e), hk.1 e⟩), box_below hb'⟩
  have H8 := Lib.hid (fun q (hq : q < n) wr (hb : Below w.heap.size w wr) => (hk8 q hq).below hga hb)
  rw [← hT]
  show Calls Try.prog 34 #[T.val] w fun e w' => ∃ v L, e = .returned v ∧ KidsI S T P w T.n v L w'
  have hval : T.val = nodeV k s lo hi' (.slice (some ⟨ga, off, none⟩) n cap) := by rw [hT]; rfl
  have hTn : T.n = n := by rw [hT]; rfl
  rw [hval, hTn]
  clear hT hval hTn hL hf hc hk8 IH hP
  unfold maxLen at hcm
  go_enter Try.func34, Try.ntmps34
  go_wp2
  go_loopw [3, 10] (fun v i wr => ∃ (q : Nat) (L : List St), q ≤ n ∧ i = .int .i64 q ∧ Hid (KidsI S T P w q v L wr)) (fun _ i _ => n - (RowKit.intOf i).toNat)
  case atStart => exact ⟨0, [], Nat.zero_le _, rfl, Lib.hid (KidsI.start S T P w _)⟩
  case round =>
    obtain ⟨q, L, hq, rfl, HI⟩ := hrel
    by_cases hlt : q < n
    · have hlt' : (q : Int) < (n : Int) := by omega
      have h8 := H8.out q hlt wr HI.out.bel
      have HC := Lib.hid (fun o => HW.out q _ L wr HI.out hlt o)
      have hlen := HI.out.len
      have hsw := HI.out.sz
      have HSZ := Lib.hid HI.out.bel.size
      obtain ⟨y, hy⟩ : ∃ y, y = kid q := ⟨_, rfl⟩
      rw [← hy] at h8 HC
      clear hy
      obtain ⟨c0, c1, c2, c3, c4, c5, c6, c7⟩ := h8
      have hgw : ga < wr.heap.size := by have := HSZ.out; omega
      obtain ⟨av, cv, rfl⟩ := row_slice HI.out.row.own
      go_wp2_with fail
      refine (HC.out _).mono ?_
      rintro e w1 ⟨u, rfl, hu, hru, hku, hb1⟩
      rw [show u.val = stepV u.k u.s (.slice u.a u.n u.cap) (.map u.m) from rfl]
      have hs1 := hb1.size
      by_cases h1 : u.k = 1
      · have HN := Lib.hid (fun o => HI.out.skip (hb1.alloc hs1 o) (hku h1).1 (hku h1).2)
        rw [h1]
        clear hu hru hku c0 c1 c2 c3 c4 c5 c6 c7
        go_wp2_with fail
        go_roundw
        case rel => exact ⟨q + 1, L, by omega, by go_num, Lib.hid (HN.out _)⟩
        case measure => simp [RowKit.intOf]; omega
      · have h1' : (u.k == 1) = false := by simp [h1]
        have hb2 : Below wr.heap.size wr ((w1.alloc (.cells (row7 u.k u.s (.slice u.a u.n u.cap) (.map u.m)) 49)).alloc (.cells (row7 u.k u.s (.slice u.a u.n u.cap) (.map u.m)) 49)) := (hb1.alloc hs1 _).alloc (by simp; omega) _
        have HN := Lib.hid (fun v' w3 => HI.out.snoc (v' := v') (w3 := w3) hb2 (hu.below (alloc2_below _ _ _)) hru h1)
        have HXA := Lib.hid ((HI.out.row.below hb2).own)
        clear hu hru hku c0 c1 c2 c3 c4 c5 c6 c7 hb2
        go_wp2_with (first | (at_builtin; refine wpList_append_own_at _ rfl _ _ 45 rfl (w.heap.size + 1) 49 i0 _ 7 72 Try.underlying45 hi hz0 hz1 hz2 rfl (by decide) _ _ _ rfl HXA.out ⟨w1.heap.size + 1, 0, none⟩ 1 1 (cells7 u) rfl rfl ?d1 ?d2 ?d3 ?d4 ?d5 ?_))
        case d1 => exact World.news_of_block (cs := row7 u.k u.s (.slice u.a u.n u.cap) (.map u.m)) (t := 49) (fr := (0, 0)) (two_newb w1 _ _)
        case d2 => exact cells7_one u
        case d3 => unfold maxLen; omega
        case d4 => omega
        case d5 => simp; omega
        · intro v1 w3 hown1 hgrow _ hat
          have HJ2 := Lib.hid (HN.out v1 w3 hown1 hgrow (by simpa using hat))
          obtain ⟨a1, cp1, rfl⟩ := row_slice hown1
          clear hown1 hgrow hat
          go_wp2
          go_roundw
          case rel => exact ⟨q + 1, L ++ [u], by omega, by go_num, HJ2⟩
          case measure => simp [RowKit.intOf]; omega
    · have hlt' : ¬ (q : Int) < (n : Int) := by omega
      obtain rfl : q = n := by omega
      go_wp2
      go_ret
      exact ⟨_, rfl, L, HI.out⟩
end Go.Proofs.Ytnfchlkdppblfaa
