/- The document's list functions of layer 9: moved, Add, ints. -/
import Derived.Test.YtbahadgcmaabcaaJc
namespace Go.Proofs.Ytbahadgcmaabcaa
open Go.RowKit Go
theorem info3c : (Try.prog.info? 3).map (fun i => (i.zero, i.size, i.bytes)) = some (some (.int .i64 0), 1, 8) := info3
theorem il_cells {w : World} {v : Value} {l : List Int} (h : IL w v l) {w' : World} (hb : Below w.heap.size w w') {i : Nat} (hi : i < l.length) : ∃ g off c, v = .slice (some ⟨g, off, none⟩) l.length c ∧ l.length ≤ c ∧ c ≤ maxLen ∧ w'.cell? ⟨g, off + i, none⟩ = some (.int .i64 (l.getD i 0)) := by
  obtain ⟨a, cap, hv, h1, h2, _, h3⟩ := h
  obtain ⟨g, off, cs, f, rfl, hg, hc⟩ := h3 (by omega)
  exact ⟨g, off, cap, hv, h1, h2, (hb.cell (p := ⟨g, off + i, none⟩) (lt_heap hg)).trans (hc i hi)⟩
theorem take_next {l : List Int} {i : Nat} (h : i < l.length) : l.take (i + 1) = l.take i ++ [l.getD i 0] := by
  rw [List.take_succ_eq_append_getElem h, List.getD_eq_getElem?_getD, List.getElem?_eq_getElem h]; rfl
set_option maxRecDepth 100000 in
set_option maxHeartbeats 4000000 in
theorem moved_any (l : List Int) (by' : Int) (v : Value) (w : World) (h : IL w v l) (hb0 : 0 ≤ by' ∧ by' ≤ 1000) (hn : l.length ≤ 1000) (hl : ∀ x ∈ l, 0 ≤ x ∧ x ≤ 1000) :
    Calls Try.prog 63 #[v, .int .i64 by'] w (GivesL w (l.map fun x => x + by')) := by
  obtain ⟨i0, hi, hz0, hz1, hz2⟩ := info_parts info3c
  have HIL := Lib.hid h
  obtain ⟨a, cap, rfl, h1, h2, _⟩ := h
  obtain ⟨N, hN⟩ : ∃ N, N = l.length := ⟨_, rfl⟩
  have HN := Lib.hid hN
  have HLX : Hid (∀ i, i < N → 0 ≤ l.getD i 0 ∧ l.getD i 0 ≤ 1000) := Lib.hid fun i hi => hl _ (by rw [List.getD_eq_getElem?_getD, List.getElem?_eq_getElem (by omega)]; exact List.getElem_mem (by omega))
  have HST : Hid (∀ i, i < N → (l.take (i + 1)).map (fun x => x + by') = (l.take i).map (fun x => x + by') ++ [l.getD i 0 + by']) := Lib.hid fun i hi => by rw [take_next (by omega)]; simp
  have HEN : Hid ((l.take N).map (fun x => x + by') = l.map fun x => x + by') := Lib.hid (by rw [hN, List.take_length])
  have HLT : Hid (∀ i, i ≤ N → ((l.take i).map fun x => x + by').length = i) := Lib.hid fun i hi => by rw [List.length_map, List.length_take]; omega
  rw [← hN] at h1 hn ⊢
  obtain ⟨b0, b1⟩ := hb0
  clear hN hl
  go_enter Try.func63, Try.ntmps63
  go_wp2
  go_loopw [5, 6] (fun o c wr => ∃ i : Nat, i ≤ N ∧ c = .int .i64 i ∧ Hid (wr.ownsRow w.heap.size 3 1 o i (((l.take i).map fun x => x + by').map (Value.int .i64))) ∧ Below w.heap.size w wr) (fun _ c _ => N - (intOf c).toNat)
  case atStart => exact ⟨0, by omega, rfl, Lib.hid (World.ownsRow_nil _ _ _ _), Below.refl _ _⟩
  case round =>
    obtain ⟨i, hi', rfl, HO, hb⟩ := hrel
    obtain ⟨av, cv, rfl⟩ := row_slice HO.out
    by_cases hlt : i < N
    · have hlt' : (i : Int) < (N : Int) := by omega
      obtain ⟨g, off, c, he, _, _, hc⟩ := il_cells HIL.out hb (show i < l.length by rw [← HN.out]; exact hlt)
      injection he with he1 he2 he3
      subst he1 he3
      obtain ⟨x0, x1⟩ := HLX.out i hlt
      have HB := Lib.hid hb
      have hbs := hb.size
      obtain ⟨x, hx⟩ : ∃ x, x = l.getD i 0 := ⟨_, rfl⟩
      rw [← hx] at hc x0 x1
      have HX := Lib.hid hx
      clear hb hx he2
      go_wp2_with (at_builtin; refine wpList_append_own _ rfl _ _ 37 rfl w.heap.size 3 i0 (.int .i64 0) 1 8 Try.underlying37 hi hz0 hz1 hz2 rfl (by decide) _ _ _ rfl (HO.out.alloc _) ⟨wr.heap.size, 0, none⟩ 1 1 [.int .i64 (x + by')] rfl rfl (cell_one_new _ _ _) (by simp [Value.oneCell']) (by unfold maxLen; omega) (by omega) (by simp; omega) ?_; intro v1 w1 hown1 hgr1 _; have HO1 : Hid (w1.ownsRow w.heap.size 3 1 v1 (i + 1) (((l.take (i + 1)).map fun x => x + by').map (Value.int .i64))) := Lib.hid (by rw [HST.out i hlt, ← HX.out]; simpa using hown1); have HB1 := Lib.hid ((HB.out.alloc HB.out.size _).grown hgr1 (by simp; omega) fun k hk => (own_type HO.out k hk).1); clear hown1 hgr1)
      go_roundw
      case rel => exact ⟨i + 1, by omega, by go_num, HO1, HB1.out⟩
      case measure => simp [intOf]; omega
    · obtain rfl : N = i := by omega
      have HB := Lib.hid hb
      clear hb
      have HR := Lib.hid (show GivesL w (l.map fun x => x + by') (.returned (.slice av N cv)) wr from ⟨_, rfl, il_row (base := w.heap.size) (by have h3 := HO.out; rw [HEN.out] at h3; rw [List.length_map, ← HN.out]; exact h3), HB.out⟩)
      go_wp2
      go_ret
      exact HR.out
end Go.Proofs.Ytbahadgcmaabcaa
/- The document's Add of layer 9: two lists that rise, as one. -/
namespace Go.Proofs.Ytbahadgcmaabcaa
open Go.RowKit Go
theorem drop_at {l : List Int} {i : Nat} (h : i < l.length) : l.drop i = l.getD i 0 :: l.drop (i + 1) := by
  rw [List.drop_eq_getElem_cons h, List.getD_eq_getElem?_getD, List.getElem?_eq_getElem h]; rfl
theorem mrg_both {x : Int} {a b : List Int} (h : ∀ z ∈ a, x < z) : mrg (x :: a) (x :: b) = x :: mrg a b := by
  rw [mrg_same]
  cases a with
  | nil => rw [nil_mrg, nil_mrg]
  | cons z a => exact mrg_gt (h z (by simp))
/-- While Add runs. -/
structure AdI (w : World) (r l m : List Int) (i k : Nat) (o : List Int) (v : Value) (wr : World) : Prop where
  il : i ≤ l.length
  kl : k ≤ m.length
  own : wr.ownsRow w.heap.size 3 1 v o.length (o.map (Value.int .i64))
  bel : Below w.heap.size w wr
  eq : r = o ++ mrg (l.drop i) (m.drop k)
  len : o.length ≤ i + k
section
variable {w : World} {r l m : List Int} {i k : Nat} {o : List Int} {v v' : Value} {wr w1 : World}
theorem AdI.stepA (h : AdI w r l m i k o v wr) (hi : i < l.length) (hk : k = m.length ∨ (k < m.length ∧ l.getD i 0 < m.getD k 0)) (hg : wr.grownBy w1 v.ownBlock) (hown : w1.ownsRow w.heap.size 3 1 v' (o.length + 1) (o.map (Value.int .i64) ++ [.int .i64 (l.getD i 0)])) : ∃ o', AdI w r l m (i + 1) k o' v' w1 :=
  ⟨o ++ [l.getD i 0], hi, h.kl, by simpa using hown, h.bel.grown hg h.bel.size fun j hj => (own_type h.own j hj).1, by
    rw [h.eq, drop_at hi]
    rcases hk with e | ⟨e, hlt⟩
    · rw [show m.drop k = [] from List.drop_eq_nil_of_le (by omega), mrg_nil, mrg_nil]; simp
    · rw [drop_at e, mrg_lt hlt]; simp, by have := h.len; simp; omega⟩
theorem AdI.stepB (h : AdI w r l m i k o v wr) (hk : k < m.length) (hi : i = l.length ∨ (i < l.length ∧ m.getD k 0 < l.getD i 0)) (hg : wr.grownBy w1 v.ownBlock) (hown : w1.ownsRow w.heap.size 3 1 v' (o.length + 1) (o.map (Value.int .i64) ++ [.int .i64 (m.getD k 0)])) : ∃ o', AdI w r l m i (k + 1) o' v' w1 :=
  ⟨o ++ [m.getD k 0], h.il, hk, by simpa using hown, h.bel.grown hg h.bel.size fun j hj => (own_type h.own j hj).1, by
    rw [h.eq, drop_at hk]
    rcases hi with e | ⟨e, hlt⟩
    · rw [show l.drop i = [] from List.drop_eq_nil_of_le (by omega), nil_mrg, nil_mrg]; simp
    · rw [drop_at e, mrg_gt hlt]; simp, by have := h.len; simp; omega⟩
theorem AdI.stepC (h : AdI w r l m i k o v wr) (hl : l.Pairwise (· < ·)) (hi : i < l.length) (hk : k < m.length) (he : l.getD i 0 = m.getD k 0) (hg : wr.grownBy w1 v.ownBlock) (hown : w1.ownsRow w.heap.size 3 1 v' (o.length + 1) (o.map (Value.int .i64) ++ [.int .i64 (l.getD i 0)])) : ∃ o', AdI w r l m (i + 1) (k + 1) o' v' w1 :=
  ⟨o ++ [l.getD i 0], hi, hk, by simpa using hown, h.bel.grown hg h.bel.size fun j hj => (own_type h.own j hj).1, by
    have hs : (l.drop i).Pairwise (· < ·) := hl.sublist (List.drop_sublist _ _)
    rw [h.eq, drop_at hk, ← he]
    rw [drop_at hi] at hs ⊢
    rw [mrg_both (List.pairwise_cons.1 hs).1]
    simp, by have := h.len; simp; omega⟩
theorem AdI.fin (h : AdI w r l m i k o v wr) (hi : i = l.length) (hk : k = m.length) : GivesL w r (.returned v) wr :=
  ⟨v, rfl, by
    have : r = o := by rw [h.eq, List.drop_eq_nil_of_le (by omega), List.drop_eq_nil_of_le (by omega)]; simp [mrg]
    rw [this]; exact il_row h.own, h.bel⟩
end
set_option maxRecDepth 100000 in
set_option maxHeartbeats 8000000 in
theorem add_any9 (l m : List Int) (va vb : Value) (w : World) (hla : IL w va l) (hlb : IL w vb m) (hl : l.Pairwise (· < ·)) (hK : l.length + m.length ≤ 5000) :
    Calls Try.prog 17 #[va, vb] w (GivesL w (mrg l m)) := by
  obtain ⟨i0, hi0, hz0, hz1, hz2⟩ := info_parts info3c
  have HA := Lib.hid hla
  have HB := Lib.hid hlb
  have HL := Lib.hid hl
  obtain ⟨r, hr⟩ : ∃ r, r = mrg l m := ⟨_, rfl⟩
  rw [← hr]
  have HST : Hid (AdI w r l m 0 0 [] (.slice none 0 0) w) := Lib.hid ⟨Nat.zero_le _, Nat.zero_le _, World.ownsRow_nil _ _ _ _, Below.refl _ _, by rw [hr]; rfl, by simp⟩
  obtain ⟨aa, ca, rfl, a1, a2, _⟩ := hla
  obtain ⟨ab, cb, rfl, b1, b2, _⟩ := hlb
  obtain ⟨na, hna⟩ : ∃ na, na = l.length := ⟨_, rfl⟩
  obtain ⟨nb, hnb⟩ : ∃ nb, nb = m.length := ⟨_, rfl⟩
  have HNA := Lib.hid hna
  have HNB := Lib.hid hnb
  rw [← hna] at a1 hK ⊢
  rw [← hnb] at b1 hK ⊢
  clear hr hl hna hnb
  go_enter Try.func17, Try.ntmps17
  go_wp2
  go_loopw [5, 6, 7] (fun v x y wr => ∃ i k : Nat, ∃ o : List Int, x = .int .i64 i ∧ y = .int .i64 k ∧ i ≤ na ∧ k ≤ nb ∧ Hid (AdI w r l m i k o v wr)) (fun _ x y _ => (na - (intOf x).toNat) + (nb - (intOf y).toNat))
  case atStart => exact ⟨0, 0, [], rfl, rfl, by omega, by omega, HST⟩
  case round =>
    obtain ⟨i, k, o, rfl, rfl, hi, hk, HI⟩ := hrel
    have hlen := HI.out.len
    obtain ⟨av, cv, rfl⟩ := row_slice HI.out.own
    have hb := HI.out.bel
    have HOW := Lib.hid HI.out.own
    have HSZ := Lib.hid hb.size
    obtain ⟨u, hu⟩ : ∃ u, u = o.length := ⟨_, rfl⟩
    rw [← hu] at hlen HOW ⊢
    by_cases hin : i < na
    · obtain ⟨ga, fa, ca', he, _, _, cx⟩ := il_cells HA.out hb (show i < l.length by rw [← HNA.out]; exact hin)
      injection he with he1 _ he3
      subst he1 he3
      obtain ⟨x, hx⟩ : ∃ x, x = l.getD i 0 := ⟨_, rfl⟩
      rw [← hx] at cx
      have hin' : (i : Int) < (na : Int) := by omega
      have hin2 : decide (i < na) = true := decide_eq_true hin
      have hin3 : ((i : Int) == (na : Int)) = false := by simp; omega
      by_cases hkn : k < nb
      · obtain ⟨gb, fb, cb', he, _, _, cy⟩ := il_cells HB.out hb (show k < m.length by rw [← HNB.out]; exact hkn)
        injection he with he1 _ he3
        subst he1 he3
        obtain ⟨y, hy⟩ : ∃ y, y = m.getD k 0 := ⟨_, rfl⟩
        rw [← hy] at cy
        have hkn' : (k : Int) < (nb : Int) := by omega
        have hkn2 : decide (k < nb) = true := decide_eq_true hkn
        have hkn3 : ((k : Int) == (nb : Int)) = false := by simp; omega
        rcases Int.lt_trichotomy x y with hxy | hxy | hxy
        · have d1 : decide (x < y) = true := decide_eq_true hxy
          have HN : Hid (∀ v' w1, wr.grownBy w1 (Value.slice av u cv).ownBlock → w1.ownsRow w.heap.size 3 1 v' (u + 1) (o.map (Value.int .i64) ++ [.int .i64 x]) → ∃ o', AdI w r l m (i + 1) k o' v' w1) := Lib.hid (by
            rw [hx, hu]; exact fun v' w1 h1 h2 => HI.out.stepA (by rw [← HNA.out]; exact hin) (Or.inr ⟨by rw [← HNB.out]; exact hkn, by rw [← hx, ← hy]; exact hxy⟩) h1 h2)
          clear hb HI hu hx hy
          go_wp2_with fail
          go_quiet (fail)
          go_wp2_with (at_builtin; refine wpList_append_own _ rfl _ _ 37 rfl w.heap.size 3 i0 (.int .i64 0) 1 8 Try.underlying37 hi0 hz0 hz1 hz2 rfl (by decide) _ _ _ rfl (World.ownsRow.alloc (w := wr.drewN _) HOW.out _) ⟨wr.heap.size, 0, none⟩ 1 1 [.int .i64 x] rfl rfl (cell_one_new _ _ _) (by simp [Value.oneCell']) (by unfold maxLen; omega) (by omega) (by have := HSZ.out; simp; omega) ?_; intro v1 w1 hown1 hgr1 _; obtain ⟨o', HI1⟩ := HN.out v1 w1 (grownBy_trans (grownBy_trans (grownBy_drewN wr _ _) (World.grownBy_alloc _ _ _)) hgr1) hown1; clear hown1 hgr1)
          go_roundw
          case rel => exact ⟨(i + 1), k, o', by go_num, by go_num, by omega, by omega, Lib.hid HI1⟩
          case measure => simp [intOf]; omega
        · have d1 : decide (x < y) = false := decide_eq_false (by omega)
          have d2 : decide (y < x) = false := decide_eq_false (by omega)
          have HN : Hid (∀ v' w1, wr.grownBy w1 (Value.slice av u cv).ownBlock → w1.ownsRow w.heap.size 3 1 v' (u + 1) (o.map (Value.int .i64) ++ [.int .i64 x]) → ∃ o', AdI w r l m (i + 1) (k + 1) o' v' w1) := Lib.hid (by
            rw [hx, hu]; exact fun v' w1 h1 h2 => HI.out.stepC HL.out (by rw [← HNA.out]; exact hin) (by rw [← HNB.out]; exact hkn) (by rw [← hx, ← hy]; exact hxy) h1 h2)
          obtain rfl : x = y := hxy
          clear hb HI hu hx hy
          go_wp2_with fail
          go_quiet (fail)
          go_wp2_with fail
          go_quiet (fail)
          go_wp2_with (at_builtin; refine wpList_append_own _ rfl _ _ 37 rfl w.heap.size 3 i0 (.int .i64 0) 1 8 Try.underlying37 hi0 hz0 hz1 hz2 rfl (by decide) _ _ _ rfl (World.ownsRow.alloc (w := wr.drewN _) HOW.out _) ⟨wr.heap.size, 0, none⟩ 1 1 [.int .i64 x] rfl rfl (cell_one_new _ _ _) (by simp [Value.oneCell']) (by unfold maxLen; omega) (by omega) (by have := HSZ.out; simp; omega) ?_; intro v1 w1 hown1 hgr1 _; obtain ⟨o', HI1⟩ := HN.out v1 w1 (grownBy_trans (grownBy_trans (grownBy_drewN wr _ _) (World.grownBy_alloc _ _ _)) hgr1) hown1; clear hown1 hgr1)
          go_roundw
          case rel => exact ⟨(i + 1), (k + 1), o', by go_num, by go_num, by omega, by omega, Lib.hid HI1⟩
          case measure => simp [intOf]; omega
        · have d1 : decide (x < y) = false := decide_eq_false (by omega)
          have d2 : decide (y < x) = true := decide_eq_true hxy
          have HN : Hid (∀ v' w1, wr.grownBy w1 (Value.slice av u cv).ownBlock → w1.ownsRow w.heap.size 3 1 v' (u + 1) (o.map (Value.int .i64) ++ [.int .i64 y]) → ∃ o', AdI w r l m i (k + 1) o' v' w1) := Lib.hid (by
            rw [hy, hu]; exact fun v' w1 h1 h2 => HI.out.stepB (by rw [← HNB.out]; exact hkn) (Or.inr ⟨by rw [← HNA.out]; exact hin, by rw [← hx, ← hy]; exact hxy⟩) h1 h2)
          clear hb HI hu hx hy
          go_wp2_with fail
          go_quiet (fail)
          go_wp2_with fail
          go_quiet (fail)
          go_wp2_with (at_builtin; refine wpList_append_own _ rfl _ _ 37 rfl w.heap.size 3 i0 (.int .i64 0) 1 8 Try.underlying37 hi0 hz0 hz1 hz2 rfl (by decide) _ _ _ rfl (World.ownsRow.alloc (w := wr.drewN _) HOW.out _) ⟨wr.heap.size, 0, none⟩ 1 1 [.int .i64 y] rfl rfl (cell_one_new _ _ _) (by simp [Value.oneCell']) (by unfold maxLen; omega) (by omega) (by have := HSZ.out; simp; omega) ?_; intro v1 w1 hown1 hgr1 _; obtain ⟨o', HI1⟩ := HN.out v1 w1 (grownBy_trans (grownBy_trans (grownBy_drewN wr _ _) (World.grownBy_alloc _ _ _)) hgr1) hown1; clear hown1 hgr1)
          go_roundw
          case rel => exact ⟨i, (k + 1), o', by go_num, by go_num, by omega, by omega, Lib.hid HI1⟩
          case measure => simp [intOf]; omega
      · obtain rfl : nb = k := by omega
        have HN : Hid (∀ v' w1, wr.grownBy w1 (Value.slice av u cv).ownBlock → w1.ownsRow w.heap.size 3 1 v' (u + 1) (o.map (Value.int .i64) ++ [.int .i64 x]) → ∃ o', AdI w r l m (i + 1) nb o' v' w1) := Lib.hid (by
          rw [hx, hu]; exact fun v' w1 h1 h2 => HI.out.stepA (by rw [← HNA.out]; exact hin) (Or.inl HNB.out) h1 h2)
        clear hb HI hu hx
        go_wp2_with fail
        go_quiet (fail)
        go_wp2_with (at_builtin; refine wpList_append_own _ rfl _ _ 37 rfl w.heap.size 3 i0 (.int .i64 0) 1 8 Try.underlying37 hi0 hz0 hz1 hz2 rfl (by decide) _ _ _ rfl (World.ownsRow.alloc (w := wr.drewN _) HOW.out _) ⟨wr.heap.size, 0, none⟩ 1 1 [.int .i64 x] rfl rfl (cell_one_new _ _ _) (by simp [Value.oneCell']) (by unfold maxLen; omega) (by omega) (by have := HSZ.out; simp; omega) ?_; intro v1 w1 hown1 hgr1 _; obtain ⟨o', HI1⟩ := HN.out v1 w1 (grownBy_trans (grownBy_trans (grownBy_drewN wr _ _) (World.grownBy_alloc _ _ _)) hgr1) hown1; clear hown1 hgr1)
        go_roundw
        case rel => exact ⟨(i + 1), nb, o', by go_num, by go_num, by omega, by omega, Lib.hid HI1⟩
        case measure => simp [intOf]; omega
    · obtain rfl : na = i := by omega
      by_cases hkn : k < nb
      · obtain ⟨gb, fb, cb', he, _, _, cy⟩ := il_cells HB.out hb (show k < m.length by rw [← HNB.out]; exact hkn)
        injection he with he1 _ he3
        subst he1 he3
        obtain ⟨y, hy⟩ : ∃ y, y = m.getD k 0 := ⟨_, rfl⟩
        rw [← hy] at cy
        have hkn' : (k : Int) < (nb : Int) := by omega
        have hkn2 : decide (k < nb) = true := decide_eq_true hkn
        have hkn3 : ((k : Int) == (nb : Int)) = false := by simp; omega
        have HN : Hid (∀ v' w1, wr.grownBy w1 (Value.slice av u cv).ownBlock → w1.ownsRow w.heap.size 3 1 v' (u + 1) (o.map (Value.int .i64) ++ [.int .i64 y]) → ∃ o', AdI w r l m na (k + 1) o' v' w1) := Lib.hid (by
          rw [hy, hu]; exact fun v' w1 h1 h2 => HI.out.stepB (by rw [← HNB.out]; exact hkn) (Or.inl HNA.out) h1 h2)
        clear hb HI hu hy
        go_wp2_with fail
        go_quiet (fail)
        go_wp2_with fail
        go_quiet (fail)
        go_wp2_with (at_builtin; refine wpList_append_own _ rfl _ _ 37 rfl w.heap.size 3 i0 (.int .i64 0) 1 8 Try.underlying37 hi0 hz0 hz1 hz2 rfl (by decide) _ _ _ rfl (World.ownsRow.alloc (w := wr.drewN _) HOW.out _) ⟨wr.heap.size, 0, none⟩ 1 1 [.int .i64 y] rfl rfl (cell_one_new _ _ _) (by simp [Value.oneCell']) (by unfold maxLen; omega) (by omega) (by have := HSZ.out; simp; omega) ?_; intro v1 w1 hown1 hgr1 _; obtain ⟨o', HI1⟩ := HN.out v1 w1 (grownBy_trans (grownBy_trans (grownBy_drewN wr _ _) (World.grownBy_alloc _ _ _)) hgr1) hown1; clear hown1 hgr1)
        go_roundw
        case rel => exact ⟨na, (k + 1), o', by go_num, by go_num, by omega, by omega, Lib.hid HI1⟩
        case measure => simp [intOf]; omega
      · obtain rfl : nb = k := by omega
        have HR := Lib.hid (HI.out.fin HNA.out HNB.out)
        rw [← hu] at HR
        clear hb HI hu
        go_wp2
        go_ret
        exact HR.out
end Go.Proofs.Ytbahadgcmaabcaa
