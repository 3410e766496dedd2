/- The law's own few and same: what is told of patterns is what the document says. -/
import Derived.Test.YtadiphijfbpcnaaDoorBk
namespace Go.Proofs.YtadiphijfbpcnaaDoor
open Go.RowKit
set_option maxRecDepth 100000 in
set_option maxHeartbeats 1000000 in
theorem few_any (t : Tr) (w : World) (hL : Lives w w.heap.size t) : Calls Tryd.prog 9 #[t.val] w fun e w' => e = .returned (.bool (decide (cnt t ≤ 1500))) ∧ Below w.heap.size w w' := by
  have HL := Lib.hid hL
  clear hL
  show Calls Tryd.prog 9 #[nodeV t.k t.s t.lo t.hi (.slice t.a t.n t.cap)] w _
  obtain ⟨r, hr⟩ : ∃ r, r = nodesI t 1500 := ⟨_, rfl⟩
  have HR := Lib.hid hr
  have HX := Lib.hid (show decide (cnt t ≤ 1500) = decide (0 ≤ r) by
    refine decide_eq_decide.2 ?_
    rw [hr]; unfold nodesI; split <;> omega)
  clear hr
  go_enter Tryd.func9, Tryd.ntmps9
  go_wp2_with fail
  refine (nodes_any t 1500 _ (by omega) (HL.out.now (alloc_below _ _))).mono ?_
  rintro e w1 ⟨rfl, hb1⟩
  rw [← HR.out]
  have HB1 := Lib.hid (box_below hb1)
  clear hb1
  by_cases h0 : 0 ≤ r
  · go_wp2
    go_ret
    exact ⟨ret_bool (by rw [HX.out, decide_eq_true h0]), HB1.out⟩
  · go_wp2
    go_ret
    exact ⟨ret_bool (by rw [HX.out, decide_eq_false (by omega)]), HB1.out⟩
theorem print_form (t : Tr) : ∃ S c, printV t = .tuple #[.string S, .int .i64 c] := by
  unfold printV; split
  · exact ⟨_, _, rfl⟩
  · exact ⟨_, _, rfl⟩
/-- Two boxes in every world that has turned nothing of them. -/
theorem keep16 {wq w1 : World} {p q : Nat} {t u : Tr} (hp : p < wq.heap.size) (hq : q < wq.heap.size) (hbp : wq.heap[p]? = some (.cells (row8 t.k t.s t.lo t.hi (.slice t.a t.n t.cap)) 27 (0, 0))) (hbq : wq.heap[q]? = some (.cells (row8 u.k u.s u.lo u.hi (.slice u.a u.n u.cap)) 27 (0, 0))) (h : Below wq.heap.size wq w1) :
    Below wq.heap.size wq w1 ∧ w1.cell? ⟨p, 0, none⟩ = some (.int .i64 t.k) ∧ w1.cell? ⟨p, 1, none⟩ = some (.int .u64 (t.s 0)) ∧ w1.cell? ⟨p, 2, none⟩ = some (.int .u64 (t.s 1)) ∧ w1.cell? ⟨p, 3, none⟩ = some (.int .u64 (t.s 2)) ∧ w1.cell? ⟨p, 4, none⟩ = some (.int .u64 (t.s 3)) ∧ w1.cell? ⟨p, 5, none⟩ = some (.int .i64 t.lo) ∧ w1.cell? ⟨p, 6, none⟩ = some (.int .i64 t.hi) ∧ w1.cell? ⟨p, 7, none⟩ = some (.slice t.a t.n t.cap) ∧
      w1.cell? ⟨q, 0, none⟩ = some (.int .i64 u.k) ∧ w1.cell? ⟨q, 1, none⟩ = some (.int .u64 (u.s 0)) ∧ w1.cell? ⟨q, 2, none⟩ = some (.int .u64 (u.s 1)) ∧ w1.cell? ⟨q, 3, none⟩ = some (.int .u64 (u.s 2)) ∧ w1.cell? ⟨q, 4, none⟩ = some (.int .u64 (u.s 3)) ∧ w1.cell? ⟨q, 5, none⟩ = some (.int .i64 u.lo) ∧ w1.cell? ⟨q, 6, none⟩ = some (.int .i64 u.hi) ∧ w1.cell? ⟨q, 7, none⟩ = some (.slice u.a u.n u.cap) := by
  obtain ⟨a0, a1, a2, a3, a4, a5, a6, a7⟩ := cell8 ((h.block p hp).trans hbp)
  obtain ⟨b0, b1, b2, b3, b4, b5, b6, b7⟩ := cell8 ((h.block q hq).trans hbq)
  exact ⟨h, a0, a1, a2, a3, a4, a5, a6, a7, b0, b1, b2, b3, b4, b5, b6, b7⟩
set_option maxRecDepth 100000 in
set_option maxHeartbeats 8000000 in
theorem lawsame_any (t u : Tr) (w : World) (hL : Lives w w.heap.size t) (hL' : Lives w w.heap.size u) (hc : cnt t ≤ 2000) : Calls Tryd.prog 10 #[t.val, u.val] w fun e w' => e = .returned (.bool true) ∧ Below w.heap.size w w' := by
  have HL := Lib.hid hL
  have HL' := Lib.hid hL'
  have HC := Lib.hid hc
  clear hL hL' hc
  show Calls Tryd.prog 10 #[nodeV t.k t.s t.lo t.hi (.slice t.a t.n t.cap), nodeV u.k u.s u.lo u.hi (.slice u.a u.n u.cap)] w _
  obtain ⟨S, c, hpv⟩ := print_form t
  obtain ⟨r, hr⟩ : ∃ r, r = rightB t := ⟨_, rfl⟩
  obtain ⟨sm, hsm⟩ : ∃ r, r = sameT t u := ⟨_, rfl⟩
  have HPV := Lib.hid hpv
  have HR := Lib.hid hr
  have HSM := Lib.hid hsm
  clear hpv hr hsm
  go_enter Tryd.func10, Tryd.ntmps10
  go_wp2_with fail
  have hB0 := alloc2_below w (.cells (row8 t.k t.s t.lo t.hi (.slice t.a t.n t.cap)) 27) (.cells (row8 u.k u.s u.lo u.hi (.slice u.a u.n u.cap)) 27)
  have HP0 := Lib.hid (heap_alloc2_old w (.cells (row8 t.k t.s t.lo t.hi (.slice t.a t.n t.cap)) 27) (.cells (row8 u.k u.s u.lo u.hi (.slice u.a u.n u.cap)) 27))
  have HQ0 := Lib.hid (heap_alloc2_new w (.cells (row8 t.k t.s t.lo t.hi (.slice t.a t.n t.cap)) 27) (.cells (row8 u.k u.s u.lo u.hi (.slice u.a u.n u.cap)) 27))
  refine (print_any t _ (HL.out.now hB0)).mono ?_
  rintro e w1 ⟨rfl, hb1⟩
  rw [HPV.out]
  have hB1 := hB0.trans (hb1.mono hB0.size)
  have HP1 := Lib.hid ((hb1.block _ (Array.getElem?_eq_some_iff.1 HP0.out).1).trans HP0.out)
  have HQ1 := Lib.hid ((hb1.block _ (Array.getElem?_eq_some_iff.1 HQ0.out).1).trans HQ0.out)
  clear hb1 hB0 HP0 HQ0
  obtain ⟨a0, a1, a2, a3, a4, a5, a6, a7⟩ := cell8 HP1.out
  go_wp2_with fail
  refine (refprint_any t _ (HL.out.now hB1)).mono ?_
  rintro e w2 ⟨rfl, hb2⟩
  rw [HPV.out]
  have hB2 := hB1.trans (hb2.mono hB1.size)
  have HP2 := Lib.hid ((hb2.block _ (Array.getElem?_eq_some_iff.1 HP1.out).1).trans HP1.out)
  have HQ2 := Lib.hid ((hb2.block _ (Array.getElem?_eq_some_iff.1 HQ1.out).1).trans HQ1.out)
  clear hb2 hB1 HP1 HQ1 a0 a1 a2 a3 a4 a5 a6 a7
  obtain ⟨a0, a1, a2, a3, a4, a5, a6, a7⟩ := cell8 HP2.out
  go_wp2_with fail
  refine (right_any t _ (HL.out.now hB2)).mono ?_
  rintro e w3 ⟨rfl, hb3⟩
  rw [← HR.out]
  have hB3 := hB2.trans (hb3.mono hB2.size)
  have HP3 := Lib.hid ((hb3.block _ (Array.getElem?_eq_some_iff.1 HP2.out).1).trans HP2.out)
  have HQ3 := Lib.hid ((hb3.block _ (Array.getElem?_eq_some_iff.1 HQ2.out).1).trans HQ2.out)
  have hpp := (Array.getElem?_eq_some_iff.1 HP3.out).1
  have hqq := (Array.getElem?_eq_some_iff.1 HQ3.out).1
  have HL3 := Lib.hid (HL.out.now hB3)
  have HL3' := Lib.hid (HL'.out.now hB3)
  clear hb3 hB2 HP2 HQ2 a0 a1 a2 a3 a4 a5 a6 a7
  go_wp2_with fail
  obtain ⟨_, a0, a1, a2, a3, a4, a5, a6, a7, b0, b1, b2, b3, b4, b5, b6, b7⟩ := keep16 hpp hqq HP3.out HQ3.out (Below.refl _ w3)
  go_region_held3 (fun w' => Below w3.heap.size w3 w' ∧ w'.cell? ⟨w.heap.size, 0, none⟩ = some (.int .i64 t.k) ∧ w'.cell? ⟨w.heap.size, 1, none⟩ = some (.int .u64 (t.s 0)) ∧ w'.cell? ⟨w.heap.size, 2, none⟩ = some (.int .u64 (t.s 1)) ∧ w'.cell? ⟨w.heap.size, 3, none⟩ = some (.int .u64 (t.s 2)) ∧ w'.cell? ⟨w.heap.size, 4, none⟩ = some (.int .u64 (t.s 3)) ∧ w'.cell? ⟨w.heap.size, 5, none⟩ = some (.int .i64 t.lo) ∧ w'.cell? ⟨w.heap.size, 6, none⟩ = some (.int .i64 t.hi) ∧ w'.cell? ⟨w.heap.size, 7, none⟩ = some (.slice t.a t.n t.cap) ∧
      w'.cell? ⟨w.heap.size + 1, 0, none⟩ = some (.int .i64 u.k) ∧ w'.cell? ⟨w.heap.size + 1, 1, none⟩ = some (.int .u64 (u.s 0)) ∧ w'.cell? ⟨w.heap.size + 1, 2, none⟩ = some (.int .u64 (u.s 1)) ∧ w'.cell? ⟨w.heap.size + 1, 3, none⟩ = some (.int .u64 (u.s 2)) ∧ w'.cell? ⟨w.heap.size + 1, 4, none⟩ = some (.int .u64 (u.s 3)) ∧ w'.cell? ⟨w.heap.size + 1, 5, none⟩ = some (.int .i64 u.lo) ∧ w'.cell? ⟨w.heap.size + 1, 6, none⟩ = some (.int .i64 u.hi) ∧ w'.cell? ⟨w.heap.size + 1, 7, none⟩ = some (.slice u.a u.n u.cap))
    ((refine keep16 hpp hqq HP3.out HQ3.out ?_; first | assumption | exact (Below.refl _ _).drew))
    (first
      | (go_at_call 21; go_split_ands; refine (fromB (w := w3) ((refRight_any t _ (HL3.out.now ?_)).mono (fun e w' h => (show e = .returned (.bool r) ∧ _ from ⟨by rw [h.1, HR.out], h.2⟩))) ?_).mono ?_; assumption; assumption; rintro e wz ⟨rfl, hBz⟩)
      | (go_at_call 15; go_split_ands; refine (fromB (w := w3) ((same_any t u _ (HL3.out.now ?_) (HL3'.out.now ?_) HC.out).mono (fun e w' h => (show e = .returned (.bool sm) ∧ _ from ⟨by rw [h.1, HSM.out], h.2⟩))) ?_).mono ?_; assumption; assumption; assumption; rintro e wz ⟨rfl, hBz⟩)
      | (go_at_call 22; go_split_ands; refine (fromB (w := w3) ((refsame_any t u _ (HL3.out.now ?_) (HL3'.out.now ?_)).mono (fun e w' h => (show e = .returned (.bool sm) ∧ _ from ⟨by rw [h.1, HSM.out], h.2⟩))) ?_).mono ?_; assumption; assumption; assumption; rintro e wz ⟨rfl, hBz⟩))
  have hB4 := hB3.trans (hBz.mono hB3.size)
  have HP4 := Lib.hid ((hBz.block _ hpp).trans HP3.out)
  have HQ4 := Lib.hid ((hBz.block _ hqq).trans HQ3.out)
  have hp4 := (Array.getElem?_eq_some_iff.1 HP4.out).1
  have hq4 := (Array.getElem?_eq_some_iff.1 HQ4.out).1
  have HL4 := Lib.hid (HL3.out.now hBz)
  clear hBz a0 a1 a2 a3 a4 a5 a6 a7 b0 b1 b2 b3 b4 b5 b6 b7 HP3 HQ3 hpp hqq HL3 HL3'
  cases r
  · go_wp2_with fail
    go_quiet (fail)
    go_wp2
    go_ret
    exact ⟨rfl, below_drewN hB4 _⟩
  · have HRR := Lib.hid (show fitT t = true by
      have q := HR.out.symm; unfold rightB at q; simp only [Bool.and_eq_true] at q; exact fit_of_ok q.1)
    obtain ⟨z, hz⟩ : ∃ z : Int, z = ((min 1000000 (sz t) : Nat) : Int) := ⟨_, rfl⟩
    obtain ⟨nl, hnl⟩ : ∃ nl, nl = nullT t := ⟨_, rfl⟩
    have HZ := Lib.hid hz
    have HNL := Lib.hid hnl
    clear hz hnl
    go_wp2_with fail
    obtain ⟨_, a0, a1, a2, a3, a4, a5, a6, a7, b0, b1, b2, b3, b4, b5, b6, b7⟩ := keep16 hp4 hq4 HP4.out HQ4.out (Below.refl _ wz)
    go_region_held3 (fun w' => Below wz.heap.size wz w' ∧ w'.cell? ⟨w.heap.size, 0, none⟩ = some (.int .i64 t.k) ∧ w'.cell? ⟨w.heap.size, 1, none⟩ = some (.int .u64 (t.s 0)) ∧ w'.cell? ⟨w.heap.size, 2, none⟩ = some (.int .u64 (t.s 1)) ∧ w'.cell? ⟨w.heap.size, 3, none⟩ = some (.int .u64 (t.s 2)) ∧ w'.cell? ⟨w.heap.size, 4, none⟩ = some (.int .u64 (t.s 3)) ∧ w'.cell? ⟨w.heap.size, 5, none⟩ = some (.int .i64 t.lo) ∧ w'.cell? ⟨w.heap.size, 6, none⟩ = some (.int .i64 t.hi) ∧ w'.cell? ⟨w.heap.size, 7, none⟩ = some (.slice t.a t.n t.cap) ∧
        w'.cell? ⟨w.heap.size + 1, 0, none⟩ = some (.int .i64 u.k) ∧ w'.cell? ⟨w.heap.size + 1, 1, none⟩ = some (.int .u64 (u.s 0)) ∧ w'.cell? ⟨w.heap.size + 1, 2, none⟩ = some (.int .u64 (u.s 1)) ∧ w'.cell? ⟨w.heap.size + 1, 3, none⟩ = some (.int .u64 (u.s 2)) ∧ w'.cell? ⟨w.heap.size + 1, 4, none⟩ = some (.int .u64 (u.s 3)) ∧ w'.cell? ⟨w.heap.size + 1, 5, none⟩ = some (.int .i64 u.lo) ∧ w'.cell? ⟨w.heap.size + 1, 6, none⟩ = some (.int .i64 u.hi) ∧ w'.cell? ⟨w.heap.size + 1, 7, none⟩ = some (.slice u.a u.n u.cap))
      ((refine keep16 hp4 hq4 HP4.out HQ4.out ?_; first | assumption | exact (Below.refl _ _).drew))
      (first
        | (go_at_call 17; go_split_ands; refine (fromB (w := wz) ((size_any t _ (HL4.out.now ?_) HRR.out HC.out).mono (fun e w' h => (show e = .returned (.int .i64 z) ∧ _ from ⟨by rw [h.1, HZ.out], h.2⟩))) ?_).mono ?_; assumption; assumption; rintro e wy ⟨rfl, hBy⟩)
        | (go_at_call 23; go_split_ands; refine (fromB (w := wz) ((refsize_any t _ HRR.out (HL4.out.now ?_)).mono (fun e w' h => (show e = .returned (.int .i64 z) ∧ _ from ⟨by rw [h.1, HZ.out], h.2⟩))) ?_).mono ?_; assumption; assumption; rintro e wy ⟨rfl, hBy⟩)
        | (go_at_call 18; go_split_ands; refine (fromB (w := wz) ((nulltop_any t _ (HL4.out.now ?_)).mono (fun e w' h => (show e = .returned (.bool nl) ∧ _ from ⟨by rw [h.1, ← HR.out, HNL.out]; rfl, h.2⟩))) ?_).mono ?_; assumption; assumption; rintro e wy ⟨rfl, hBy⟩)
        | (go_at_call 24; go_split_ands; refine (fromB (w := wz) ((refnull_any t _ HRR.out (HL4.out.now ?_)).mono (fun e w' h => (show e = .returned (.bool nl) ∧ _ from ⟨by rw [h.1, HNL.out], h.2⟩))) ?_).mono ?_; assumption; assumption; rintro e wy ⟨rfl, hBy⟩))
    have hB5 := hB4.trans (hBy.mono hB4.size)
    clear hBy a0 a1 a2 a3 a4 a5 a6 a7 b0 b1 b2 b3 b4 b5 b6 b7
    go_wp2
    go_ret
    exact ⟨rfl, hB5⟩
end Go.Proofs.YtadiphijfbpcnaaDoor
