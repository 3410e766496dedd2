/- Contract of the document's Ends of layer 5. -/
import Derived.Test.YtbahadgcmaabcaaGi
import Derived.Deep.RegionHeld3
namespace Go.Proofs.Ytbahadgcmaabcaa
open Go.RowKit Go.Maps Go
theorem right_fit5 {t : Tr} (h : rightB t = true) : fitT t = true := by
  unfold rightB at h
  simp only [Bool.and_eq_true] at h
  exact fit_of_ok h.1
theorem mayB_iff {S : ByteArray} {t : Tr} : mayB S t = true ↔ rightB t = true ∧ S.size ≤ 10000 := by
  unfold mayB; rw [Bool.and_eq_true, decide_eq_true_eq]
/-- The first j places that f tells. -/
def lstB (f : Nat → Bool) (j : Nat) : List Nat := (List.range j).filter f
theorem lstB_yes {f : Nat → Bool} {j : Nat} (h : f j = true) : lstB f (j + 1) = lstB f j ++ [j] := by
  unfold lstB; rw [List.range_succ, List.filter_append]; simp [h]
theorem lstB_no {f : Nat → Bool} {j : Nat} (h : f j = false) : lstB f (j + 1) = lstB f j := by
  unfold lstB; rw [List.range_succ, List.filter_append]; simp [h]
theorem lstB_le (f : Nat → Bool) (j : Nat) : (lstB f j).length ≤ j := by
  unfold lstB
  exact Nat.le_trans (List.length_filter_le _ _) (by simp)
theorem lstB_all {L : Nat} {f : Nat → Bool} {R : Nat → Prop} (h : Tells L f R) : lstB f (L + 1) = lst L R := by
  classical
  unfold lstB lst
  refine List.filter_congr fun i hi => ?_
  have hi' : i ≤ L := by have := List.mem_range.1 hi; omega
  rw [Bool.eq_iff_iff, decide_eq_true_eq]
  exact h.1 i hi'
theorem tells_one {L p : Nat} (hp : p ≤ L) : Tells L (fun q => if q = p then true else false) (fun j => j = p) := by
  refine ⟨fun i _ => ?_, fun i h => by omega⟩
  show (if i = p then true else false) = true ↔ i = p
  split <;> simp [*]
theorem im_one {r : Nat → Nat → Prop} {p : Nat} : im r (fun j => j = p) = r p := ext1 fun j => ⟨fun ⟨i, e, h⟩ => by cases e; exact h, fun h => ⟨p, rfl, h⟩⟩
set_option maxRecDepth 100000 in
set_option maxHeartbeats 2000000 in
theorem refends_bad (S : ByteArray) (t : Tr) (at' : Int) (w : World) (hL : Lives w w.heap.size t) (h : ¬ (rightB t = true ∧ S.size ≤ 10000 ∧ 0 ≤ at' ∧ at' ≤ (S.size : Int))) :
    Calls Try.prog 27 #[t.val, .string S, .int .i64 at'] w (EndsP S t at' w) := by
  have HR : Hid (∀ o, Calls Try.prog 41 #[t.val, .string S] (w.alloc o) fun e w' => e = .returned (.bool (mayB S t)) ∧ Below (w.alloc o).heap.size (w.alloc o) w') := Lib.hid fun o => refmay_any S t (w.alloc o) (hL.now (alloc_below _ _))
  have HF := Lib.hid (fun w' => ends_none (S := S) (at' := at') (w := w) (w' := w') h)
  rw [show t.val = nodeV t.k t.s t.lo t.hi (.slice t.a t.n t.cap) from rfl] at HR ⊢
  clear hL
  cases hr : mayB S t
  · rw [hr] at HR
    clear h hr
    go_enter Try.func27, Try.ntmps27
    go_wp2_with fail
    refine (HR.out _).mono ?_
    rintro e w1 ⟨rfl, hb1⟩
    have HG := Lib.hid (HF.out w1 (box_below hb1))
    clear hb1
    go_wp2
    go_ret
    exact HG.out
  · rw [hr] at HR
    have hm := mayB_iff.1 hr
    have h' : at' < 0 ∨ (S.size : Int) < at' := by
      rcases Int.lt_or_le at' 0 with q | q
      · exact Or.inl q
      · rcases Int.lt_or_le (S.size : Int) at' with q2 | q2
        · exact Or.inr q2
        · exact absurd ⟨hm.1, hm.2, q, q2⟩ h
    clear h hr hm
    by_cases h1 : at' < 0
    · clear h'
      go_enter Try.func27, Try.ntmps27
      go_wp2_with fail
      refine (HR.out _).mono ?_
      rintro e w1 ⟨rfl, hb1⟩
      have HG := Lib.hid (HF.out w1 (box_below hb1))
      clear hb1
      go_wp2
      go_ret
      exact HG.out
    · have h2 : (S.size : Int) < at' := by omega
      clear h'
      go_enter Try.func27, Try.ntmps27
      go_wp2_with fail
      refine (HR.out _).mono ?_
      rintro e w1 ⟨rfl, hb1⟩
      have HG := Lib.hid (HF.out w1 (box_below hb1))
      clear hb1
      go_wp2
      go_ret
      exact HG.out
theorem mk_facts {w w1 w2 : World} {t : Tr} {n : Nat} (p : Nat) (hs1 : w.heap.size + 1 ≤ w1.heap.size) (h1 : Below w.heap.size w w1) (hx : w1.heap[w.heap.size]? = some (.cells (row8 t.k t.s t.lo t.hi (.slice t.a t.n t.cap)) 27 (0, 0))) (hb : BBlk w2 w1.heap.size n (fun _ => false)) (hg : w1.grownBy w2 none) :
    Below w.heap.size w (w2.setCell ⟨w1.heap.size, p, none⟩ (.bool true)) ∧ BRow (w2.setCell ⟨w1.heap.size, p, none⟩ (.bool true)) w1.heap.size n (fun q => if q = p then true else false) ∧ (w2.setCell ⟨w1.heap.size, p, none⟩ (.bool true)).heap[w.heap.size]? = some (.cells (row8 t.k t.s t.lo t.hi (.slice t.a t.n t.cap)) 27 (0, 0)) := by
  have hb2 : Below w1.heap.size w1 w2 := ⟨hg.os, hg.tape, hg.output, hg.size, fun k hk => hg.block k hk (fun e => by cases e)⟩
  refine ⟨(h1.trans (hb2.mono (by omega))).setCell (by show w.heap.size ≤ w1.heap.size; omega) _, (hb.set p true).row, ?_⟩
  exact (Below.heap_setCell _ _ _ _ (by show w.heap.size ≠ w1.heap.size; omega)).trans ((hb2.block _ (by omega)).trans hx)
set_option maxRecDepth 100000 in
theorem info3e : (Try.prog.info? 3).map (fun i => (i.zero, i.size, i.bytes)) = some (some (.int .i64 0), 1, 8) := by kernel_rfl
set_option maxRecDepth 100000 in
set_option maxHeartbeats 4000000 in
theorem refends_good (S : ByteArray) (t : Tr) (p : Nat) (w : World) (hL : Lives w w.heap.size t) (h : rightB t = true ∧ S.size ≤ 10000 ∧ 0 ≤ (p : Int) ∧ (p : Int) ≤ (S.size : Int)) :
    Calls Try.prog 27 #[t.val, .string S, .int .i64 (p : Int)] w (EndsP S t (p : Int) w) := by
  obtain ⟨i0, hi, hz0, hz1, hz2⟩ := info_parts infoB
  obtain ⟨j0, hj0, jz0, jz1, jz2⟩ := info_parts info3e
  have HR : Hid (∀ o, Calls Try.prog 41 #[t.val, .string S] (w.alloc o) fun e w' => e = .returned (.bool true) ∧ Below (w.alloc o).heap.size (w.alloc o) w') := Lib.hid fun o => by
    have := refmay_any S t (w.alloc o) (hL.now (alloc_below _ _))
    rw [mayB_iff.2 ⟨h.1, h.2.1⟩] at this
    exact this
  have hpS : p ≤ S.size := by omega
  obtain ⟨n, hn⟩ : ∃ n, n = S.size + 1 := ⟨_, rfl⟩
  have HST : Hid (∀ W g, Below w.heap.size w W → BRow W g n (fun q => if q = p then true else false) → Calls Try.prog 42 #[t.val, .string S, .slice (some ⟨g, 0, none⟩) (n : Nat) n] W fun e w' => ∃ f, BRet W n f e w' ∧ Tells S.size f (mt (nx S) S.size t p)) := Lib.hid fun W g hb hr => by
    have := step_any S h.2.1 t (fun j => j = p) g n _ W (right_fit5 h.1) ((hL.below hb).mono hb.size) (by omega) (by unfold maxLen; omega) (by rw [← hn]; exact hr) (tells_one hpS)
    unfold StpE at this
    rw [im_one, ← hn] at this
    exact this
  have HFIN : Hid (∀ (W : World) v f, Below w.heap.size w W → Tells S.size f (mt (nx S) S.size t p) → W.ownsRow w.heap.size 3 1 v (lstB f n).length (natV (lstB f n)) → EndsP S t (p : Int) w (.returned v) W) := Lib.hid fun W v f hb ht hr => by
    refine ⟨v, rfl, ?_, hb⟩
    have e : endsL S t (p : Int) = lstB f n := by
      unfold endsL
      rw [if_pos h, hn, lstB_all ht]
      rfl
    rw [e]; exact hr
  have hn1 : 1 ≤ n := by omega
  have hn2 : n ≤ 10001 := by omega
  have hpn : p < n := by omega
  have hpn' : (p : Int) < (n : Int) := by omega
  have h2' : decide ((p : Int) < 0) = false := by simp
  have h3' : decide (S.size < p) = false := by simp; omega
  have h4' : ¬ S.size < p := by omega
  have e1 : IntKind.i64.wrap ((S.size : Int) + 1) = (n : Int) := by rw [IntWalk.i64_in _ (by omega)]; omega
  have hSb : (S.size : Int) ≤ 10000 := by omega
  have HSN := Lib.hid hn
  rw [show t.val = nodeV t.k t.s t.lo t.hi (.slice t.a t.n t.cap) from rfl] at HR HST ⊢
  clear hL h hn
  go_enter Try.func27, Try.ntmps27
  go_wp2_with fail
  refine (HR.out _).mono ?_
  rintro e w1 ⟨rfl, hb1⟩
  have HB1 := Lib.hid (box_below hb1)
  obtain ⟨b0, b1, b2, b3, b4, b5, b6, b7⟩ := cell8 (s := t.s) (box_kept hb1)
  have hs1 := hb1.size
  simp at hs1
  have HX1 := Lib.hid (box_kept hb1)
  clear hb1 HR
  go_wp2_with (first
    | (at_make; refine wpList_make_full _ rfl _ _ 71 rfl w1.heap.size 4 i0 (.bool false) 1 Try.underlying71 hi hz0 hz1 .i64 .i64 _ _ n rfl rfl (by have := HSN.out; omega) (by have := HSN.out; omega) (by rw [hz2]; omega) (by unfold maxLen; omega) (Nat.le_refl _) ?_; intro w2 hown hgr; have hbl := made_blk (z := .bool false) rfl hown; have d1 := (hbl.row).2 p hpn; have d2 := hbl.froz p; obtain ⟨hB3, hR3, hX3⟩ := mk_facts (t := t) p hs1 HB1.out HX1.out hbl hgr; obtain ⟨a0, a1, a2, a3, a4, a5, a6, a7⟩ := cell8 (s := t.s) hX3; have HCL := Lib.hid (HST.out _ w1.heap.size hB3 hR3); have HB3 := Lib.hid hB3; clear hown hgr hbl hB3 hR3 hX3)
    | (go_at_call 42; refine HCL.out.mono ?_; rintro e w4 ⟨f, ⟨g4, c4, rfl, k1, k2, hr4, hb4⟩, ht4⟩))
  have HR4 := Lib.hid hr4
  have HT4 := Lib.hid ht4
  have HB4 := Lib.hid (HB3.out.trans (hb4.mono HB3.out.size))
  clear hr4 ht4 hb4 a0 a1 a2 a3 a4 a5 a6 a7 HCL
  unfold maxLen at k2
  go_wp2
  go_loopw [9, 10] (fun v i wr => ∃ (j : Nat) (av : Value), j ≤ n ∧ i = .int .i64 j ∧ av = v ∧ Hid (wr.ownsRow w4.heap.size 3 1 av (lstB f j).length (natV (lstB f j))) ∧ Below w4.heap.size w4 wr) (fun _ i _ => n - (RowKit.intOf i).toNat)
  case atStart => exact ⟨0, _, by omega, rfl, rfl, Lib.hid (World.ownsRow_nil _ _ _ _), Below.refl _ _⟩
  case round =>
    obtain ⟨j, av, hj, rfl, rfl, HOWN, hb⟩ := hrel
    by_cases hlt : j < n
    · have hlt' : (j : Int) < (n : Int) := by omega
      have dj := (hb.cell (p := ⟨g4, j, none⟩) HR4.out.1).trans (HR4.out.2 j hlt)
      have hle := lstB_le f j
      have HY := Lib.hid (fun (q : f j = true) => lstB_yes q)
      have HZ := Lib.hid (fun (q : f j = false) => lstB_no q)
      have HB := Lib.hid hb
      have hsz := hb.size
      have hs4 := HB4.out.size
      obtain ⟨bf, hbf⟩ : ∃ b, b = f j := ⟨_, rfl⟩
      rw [← hbf] at dj HY HZ
      clear hbf hb
      cases bf
      · have HE := Lib.hid (HZ.out rfl)
        clear HY HZ
        go_wp2
        go_roundw
        case rel => exact ⟨j + 1, av, by omega, by go_num, rfl, Lib.hid (by rw [HE.out]; exact HOWN.out), HB.out⟩
        case measure => simp [RowKit.intOf]; omega
      · have HE := Lib.hid (HY.out rfl)
        clear HY HZ
        go_wp2_with (first
          | (at_builtin; refine wpList_append_own _ rfl _ _ 37 rfl w4.heap.size 3 j0 (.int .i64 0) 1 8 Try.underlying37 hj0 jz0 jz1 jz2 rfl (by decide) _ _ _ rfl (HOWN.out.alloc _) ⟨wr.heap.size, 0, none⟩ 1 1 [.int .i64 (j : Int)] rfl rfl (cell_one_new _ _ _) (by simp [Value.oneCell']) (by unfold maxLen; omega) (by omega) (by simp; omega) ?_))
        intro v' w5 hown hgrow _
        have HOWN2 := Lib.hid (show w5.ownsRow w4.heap.size 3 1 v' (lstB f (j + 1)).length (natV (lstB f (j + 1))) by rw [HE.out]; simp only [List.length_append, List.length_singleton, natV, List.map_append, List.map_cons, List.map_nil]; exact hown)
        have HB5 : Hid (Below w4.heap.size w4 w5) := Lib.hid ((HB.out.trans ((alloc_below wr _).mono hsz)).grown hgrow (by simp; omega) fun k hk => (HOWN.out.lt k hk).1)
        clear hown hgrow
        go_wp2
        go_roundw
        case rel => exact ⟨j + 1, v', by omega, by go_num, rfl, HOWN2, HB5.out⟩
        case measure => simp [RowKit.intOf]; omega
    · obtain rfl : n = j := by omega
      have HZ := Lib.hid (HFIN.out wr av f (HB4.out.trans (hb.mono HB4.out.size)) HT4.out (own_base HOWN.out HB4.out.size))
      clear hb
      go_wp2
      go_ret
      exact HZ.out
theorem refends_any (S : ByteArray) (t : Tr) (at' : Int) (w : World) (hL : Lives w w.heap.size t) : Calls Try.prog 27 #[t.val, .string S, .int .i64 at'] w (EndsP S t at' w) := by
  by_cases h : rightB t = true ∧ S.size ≤ 10000 ∧ 0 ≤ at' ∧ at' ≤ (S.size : Int)
  · obtain ⟨p, rfl⟩ : ∃ p : Nat, at' = (p : Int) := ⟨at'.toNat, by omega⟩
    exact refends_good S t p w hL h
  · exact refends_bad S t at' w hL h
end Go.Proofs.Ytbahadgcmaabcaa
/- Contract of the document's Match of layer 5. -/
namespace Go.Proofs.Ytbahadgcmaabcaa
open Go.RowKit Go.Maps Go
set_option maxRecDepth 100000 in
set_option maxHeartbeats 1000000 in
theorem refmatch_any (S : ByteArray) (t : Tr) (w : World) (hL : Lives w w.heap.size t) : Calls Try.prog 18 #[t.val, .string S] w fun e w' => ∃ b : Bool, e = .returned (.bool b) ∧ (b = true ↔ matB S t) ∧ Below w.heap.size w w' := by
  have HE : Hid (∀ o, Calls Try.prog 27 #[t.val, .string S, .int .i64 0] (w.alloc o) (EndsP S t 0 (w.alloc o))) := Lib.hid fun o => refends_any S t 0 (w.alloc o) (hL.now (alloc_below _ _))
  have HM := Lib.hid (ends_zero S t)
  rw [show t.val = nodeV t.k t.s t.lo t.hi (.slice t.a t.n t.cap) from rfl] at HE ⊢
  clear hL
  go_enter Try.func18, Try.ntmps18
  go_wp2_with fail
  refine (HE.out _).mono ?_
  rintro e w1 ⟨v, rfl, hrow, hb⟩
  have HB := Lib.hid (box_below hb)
  clear hb
  obtain ⟨l, hl⟩ : ∃ l, l = endsL S t 0 := ⟨_, rfl⟩
  rw [← hl] at hrow HM
  clear hl
  rcases hrow.2 with ⟨rfl, h0⟩ | ⟨g, cap, cur, rfl, hbg, hgg, hnc, hcm, _⟩
  · have hlz : ¬ 0 < l.length := by omega
    have HF : Hid (matB S t → False) := Lib.hid fun h => by obtain ⟨q, _⟩ := HM.out.2 h; exact hlz q
    clear hrow h0 hlz HM
    go_wp2
    go_ret
    exact ⟨false, rfl, ⟨fun h => by (cases h), fun h => (HF.out h).elim⟩, HB.out⟩
  · rcases Nat.eq_zero_or_pos l.length with h0 | h0
    · have HF : Hid (matB S t → False) := Lib.hid fun h => by obtain ⟨q, _⟩ := HM.out.2 h; omega
      rw [h0]
      clear hrow HM hnc hbg hgg
      go_wp2
      go_ret
      exact ⟨false, rfl, ⟨fun h => by (cases h), fun h => (HF.out h).elim⟩, HB.out⟩
    · have hc := natV_cell hrow (i := l.length - 1) (by omega)
      obtain ⟨x, hx⟩ : ∃ x : Nat, x = l.getD (l.length - 1) 0 := ⟨_, rfl⟩
      rw [← hx] at hc
      have HX : Hid (x = S.size ↔ matB S t) := Lib.hid (by rw [← HM.out, hx]; exact ⟨fun e => ⟨h0, e⟩, fun ⟨_, e⟩ => e⟩)
      have hlm : l.length ≤ 9223372036854775807 := by unfold maxLen at hcm; omega
      obtain ⟨n, hn⟩ : ∃ n, n = l.length := ⟨_, rfl⟩
      rw [← hn] at hc h0 hlm hnc ⊢
      have hpos : (0 : Int) < (n : Int) := by omega
      have hsub : ((n : Int) - 1).toNat = n - 1 := by omega
      have hge : (0 : Int) ≤ (n : Int) - 1 := by omega
      have hlt : (n : Int) - 1 < (n : Int) := by omega
      have hlt' : n - 1 < n := by omega
      clear hrow HM hbg hgg hx hn
      by_cases he : x = S.size
      · have he' : ((x : Int) == (S.size : Int)) = true := by simp; omega
        have HE2 := Lib.hid (HX.out.1 he)
        clear he
        go_wp2
        go_ret
        exact ⟨true, rfl, ⟨fun _ => HE2.out, fun _ => rfl⟩, HB.out⟩
      · have he' : ((x : Int) == (S.size : Int)) = false := by simp; omega
        have HE2 : Hid (¬ matB S t) := Lib.hid (fun q => he (HX.out.2 q))
        clear he
        go_wp2
        go_ret
        exact ⟨false, rfl, ⟨fun h => by (cases h), fun h => (HE2.out h).elim⟩, HB.out⟩
end Go.Proofs.Ytbahadgcmaabcaa
/- The law's own same of layer 5; MatchMade's walk. -/
namespace Go.Proofs.Ytbahadgcmaabcaa
open Go.RowKit Go.Maps Go
end Go.Proofs.Ytbahadgcmaabcaa
