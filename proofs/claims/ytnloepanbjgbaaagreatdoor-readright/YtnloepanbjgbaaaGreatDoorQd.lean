/- Reading a class: what is to be done, and the contracts of the landed code's item, folded, items, class. -/
import Derived.Test.YtnloepanbjgbaaaGreatDoorQb
import Derived.Test.YtnloepanbjgbaaaGreatDoorQc
import Derived.Test.YtnloepanbjgbaaaGreatDoorMb
import Derived.Laws.ResultCell
import Derived.Deep.LoopGhost
namespace Go.Proofs.YtnloepanbjgbaaaGreatDoor
open Go.RowKit
def itemP (N : Nat → Int) (i : Nat) : Rs (Nat → Int) :=
  match oneP N true i with
  | .er e k => .er e k
  | .ok a j => if N j = 45 then (match oneP N true (j + 1) with
    | .er e k => .er e k
    | .ok b k => if b < a then .er 22 (j + 1) else .ok (byK (ofK a b)) k) else .ok (byK (ofK a a)) j
/-- What a function that returns a set, or an error, is to do. -/
def PS (w : World) (p : Nat) (C : Cx) (deep cop : Nat) (r : Rs (Nat → Int)) (e : Ending) (w' : World) : Prop :=
  w.grownBy w' (some p) ∧ match r with
    | .ok f i => e = .returned (.tuple #[SV f, .nilIface]) ∧ Wf f ∧ Rd w' p C i deep cop
    | .er c i => (∃ f, e = .returned (.tuple #[SV f, errV c i])) ∧ i ≤ C.S.size ∧ ∃ j, Rd w' p C j deep cop
set_option maxRecDepth 100000 in
theorem ret4t {fn : Func} {p u : Tmp} (h : fn.results = #[.cell p 28, .tmp u]) {tmps : Array Value} {w : World} {g : Nat} {f : Nat → Int} {v : Value} (hp : tmps.getD p undef = .pointer (some ⟨g, 0, none⟩)) (hv : tmps.getD u undef = v) (hg : w.heap[g]? = some (.cells (row4 f) 28 (0, 0))) :
    (results fn tmps).run Tryz.prog w = .ok (.tuple #[SV f, v]) w := by
  rw [results_cell_tmp h, hp, hv]
  simp [asAddr, run_loadVar_row w g 28 28 (row4 f) (0, 0) _ hg Tryz.underlying28 rfl info24s, Result.andThen]
theorem open4 {w : World} {g : Nat} {f : Nat → Int} (h : w.heap[g]? = some (.cells (row4 f) 28 (0, 0))) :
    (w.cell? ⟨g, 0, none⟩ = some (.int .u64 (f 0)) ∧ w.cell? ⟨g, 1, none⟩ = some (.int .u64 (f 1)) ∧ w.cell? ⟨g, 2, none⟩ = some (.int .u64 (f 2)) ∧ w.cell? ⟨g, 3, none⟩ = some (.int .u64 (f 3))) ∧
      w.frozen? ⟨g, 0, none⟩ = false ∧ w.frozen? ⟨g, 1, none⟩ = false ∧ w.frozen? ⟨g, 2, none⟩ = false ∧ w.frozen? ⟨g, 3, none⟩ = false :=
  ⟨⟨cell4 h 0 (by omega), cell4 h 1 (by omega), cell4 h 2 (by omega), cell4 h 3 (by omega)⟩, frozen_of_row _ _ 0 _ _ h, frozen_of_row _ _ 1 _ _ h, frozen_of_row _ _ 2 _ _ h, frozen_of_row _ _ 3 _ _ h⟩
theorem put4_grown (w : World) (g : Nat) (f : Nat → Int) : w.grownBy (put4 w g f) (some g) :=
  ⟨rfl, rfl, rfl, by simp, fun k _ hk => put4_other w g k f fun e => hk (by rw [e])⟩
/-- A box of the call's own is written, and the reader is as it was. -/
theorem fin4 {w w2 : World} {p q : Nat} {C : Cx} {i deep cop : Nat} (hR : Rd w2 p C i deep cop) (hG : w.grownBy w2 (some p)) (hp : p < w.heap.size) (hq : w.heap.size ≤ q) {z : Nat → Int} (hQ : w2.heap[q]? = some (.cells (row4 z) 28 (0, 0))) (f : Nat → Int) :
    (put4 w2 q f).heap[q]? = some (.cells (row4 f) 28 (0, 0)) ∧ Rd (put4 w2 q f) p C i deep cop ∧ w.grownBy (put4 w2 q f) (some p) := by
  refine ⟨stored4 f hQ, ⟨(put4_other w2 q p f (by omega)).trans hR.box, hR.sz, hR.le, hR.dp, hR.cp⟩, ⟨hG.os, hG.tape, hG.output, by rw [put4_size]; exact hG.size, fun k hk hr => (put4_other w2 q k f (by omega)).trans (hG.block k hk hr)⟩⟩
theorem gbelow {w w1 w2 : World} {r : Option Nat} (h : w.grownBy w1 r) (hb : Below w1.heap.size w1 w2) : w.grownBy w2 r := gtrans h (grown_of_below hb r)
set_option maxRecDepth 100000 in
set_option maxHeartbeats 2000000 in
theorem item_any (w : World) (p : Nat) (C : Cx) (i deep cop : Nat) (h : Rd w p C i deep cop) : Calls Tryz.prog 134 #[rp p] w (PS w p C deep cop (itemP (nx C.S) i)) := by
  have hpq := h.lt
  have hz := h.sz
  have HS1 := Lib.hid (single_any true _ rfl (w.alloc (.cells (row4 fun _ => 0) 28)) p C i deep cop (h.below (alloc_below _ _)))
  clear h
  obtain ⟨R, hR⟩ : ∃ R, R = itemP (nx C.S) i := ⟨_, rfl⟩
  rw [← hR]
  unfold itemP at hR
  have HE := Lib.hid hR
  clear hR
  obtain ⟨q, hqq⟩ : ∃ q, q = w.heap.size := ⟨_, rfl⟩
  have hqs : w.heap.size ≤ q := by omega
  go_enter Tryz.func134, Tryz.ntmps134
  go_wp2_with fail
  refine HS1.out.mono ?_
  intro e w1 h1
  clear HS1
  cases hr1 : oneP (nx C.S) true i with
  | er c k =>
    rw [hr1] at h1
    have HP := Lib.hid (show R = .er c k by rw [HE.out, hr1])
    obtain ⟨hG1, ⟨x, hx0, hx1, rfl⟩, hk, j, hR1⟩ := h1
    obtain ⟨hQ1, hG1⟩ := box_grown hpq hG1
    rw [← hqq] at hQ1 ⊢
    have HG1 := Lib.hid hG1
    have HQ1 := Lib.hid hQ1
    have HR1 := Lib.hid hR1
    clear hG1 hQ1 hR1 hr1 HE hqq
    go_wp2_with fail
    refine (of_any x x _).mono ?_
    rintro e w2 ⟨rfl, hb2⟩
    have HQ2 := Lib.hid ((hb2.block _ (Array.getElem?_eq_some_iff.1 HQ1.out).1).trans HQ1.out)
    obtain ⟨⟨d0, d1, d2, d3⟩, f0, f1, f2, f3⟩ := open4 (f := fun _ => 0) HQ2.out
    have HX := Lib.hid (fin4 (HR1.out.below hb2) (gbelow HG1.out hb2) hpq hqs HQ2.out (byK (ofK x x)))
    clear hb2
    generalize byK (ofK x x) = F at *
    go_wp2
    exact bodyPost_ret (v := .tuple #[SV F, errV c k]) (ret4t Tryz.results134 rfl rfl HX.out.1) rfl (by rw [HP.out]; exact ⟨HX.out.2.2, ⟨F, rfl⟩, hk, j, HX.out.2.1⟩)
  | ok x j =>
    rw [hr1] at h1
    have HE2 := Lib.hid HE.out
    rw [hr1] at HE2
    obtain ⟨hG1, rfl, hx0, hx1, hR1⟩ := h1
    obtain ⟨hQ1, hG1⟩ := box_grown hpq hG1
    rw [← hqq] at hQ1 ⊢
    have HG1 := Lib.hid hG1
    have HQ1 := Lib.hid hQ1
    have HR1 := Lib.hid hR1
    have HN := Lib.hid (next_any w1 p C j deep cop hR1)
    obtain ⟨y, hy⟩ : ∃ y, y = nx C.S j := ⟨_, rfl⟩
    have HY := Lib.hid hy
    rw [← hy] at HN
    obtain ⟨c0, c1, c2, c3, c4, c5⟩ := hR1.cells
    have hf := hR1.free 3
    have hle := hR1.le
    clear hG1 hQ1 hR1 hr1 HE hqq hy
    by_cases hm : y = 45
    · have hlt := nx_lt (S := C.S) (i := j) (by rw [← HY.out]; omega)
      have HS := Lib.hid (HR1.out.step (j := j + 1) (by omega) (v := (j : Int) + 1) (by omega))
      have HW := Lib.hid (wrong_any 22 _ p C (j + 1) deep cop HS.out.1)
      have HS2 := Lib.hid (single_any true _ rfl _ p C (j + 1) deep cop HS.out.1)
      have HQ1' := Lib.hid (box_on HQ1.out (show p ≠ q by omega) HS.out.2)
      have HG1' := Lib.hid (gtrans HG1.out HS.out.2)
      have HM := Lib.hid (HY.out.symm.trans hm)
      subst hm
      go_wp2_with (first | (go_at_call 44; refine HN.out.mono ?_; rintro e w' ⟨rfl, rfl⟩) | (go_at_call 45; refine HW.out.mono ?_; rintro e w' ⟨rfl, rfl⟩))
      refine HS2.out.mono ?_
      intro e w3 h3
      clear HN HW HS2
      cases hr3 : oneP (nx C.S) true (j + 1) with
      | er c k =>
        rw [hr3] at h3
        have HP := Lib.hid (show R = .er c k by rw [HE2.out]; simp only [HM.out, if_true, hr3])
        obtain ⟨hG3, ⟨x2, hy0, hy1, rfl⟩, hk, j3, hR3⟩ := h3
        have HQ3 := Lib.hid (box_on HQ1'.out (show p ≠ q by omega) hG3)
        have HG3 := Lib.hid (gtrans HG1'.out hG3)
        have HR3 := Lib.hid hR3
        clear hG3 hR3 hr3 HE2 HR1 HG1 HQ1 HQ1' HG1' HS HY HM c0 c1 c2 c3 c4 c5 hf
        go_wp2_with fail
        refine (of_any x x2 _).mono ?_
        rintro e w4 ⟨rfl, hb4⟩
        have HQ4 := Lib.hid ((hb4.block _ (Array.getElem?_eq_some_iff.1 HQ3.out).1).trans HQ3.out)
        obtain ⟨⟨d0, d1, d2, d3⟩, f0, f1, f2, f3⟩ := open4 (f := fun _ => 0) HQ4.out
        have HX := Lib.hid (fin4 (HR3.out.below hb4) (gbelow HG3.out hb4) hpq hqs HQ4.out (byK (ofK x x2)))
        clear hb4
        generalize byK (ofK x x2) = F at *
        go_wp2
        exact bodyPost_ret (v := .tuple #[SV F, errV c k]) (ret4t Tryz.results134 rfl rfl HX.out.1) rfl (by rw [HP.out]; exact ⟨HX.out.2.2, ⟨F, rfl⟩, hk, j3, HX.out.2.1⟩)
      | ok x2 k =>
        rw [hr3] at h3
        obtain ⟨hG3, rfl, hy0, hy1, hR3⟩ := h3
        have HQ3 := Lib.hid (box_on HQ1'.out (show p ≠ q by omega) hG3)
        have HG3 := Lib.hid (gtrans HG1'.out hG3)
        have HR3 := Lib.hid hR3
        have HP0 := Lib.hid (show R = if x2 < x then .er 22 (j + 1) else .ok (byK (ofK x x2)) k by rw [HE2.out]; simp only [HM.out, if_true, hr3])
        clear hG3 hR3 hr3 HE2 HR1 HG1 HQ1 HQ1' HG1' HS HY HM c0 c1 c2 c3 c4 c5 hf
        by_cases hlx : x2 < x
        · have HP := Lib.hid (show R = .er 22 (j + 1) by rw [HP0.out, if_pos hlx])
          go_wp2_with fail
          refine (of_any x x2 _).mono ?_
          rintro e w4 ⟨rfl, hb4⟩
          have HQ4 := Lib.hid ((hb4.block _ (Array.getElem?_eq_some_iff.1 HQ3.out).1).trans HQ3.out)
          obtain ⟨⟨d0, d1, d2, d3⟩, f0, f1, f2, f3⟩ := open4 (f := fun _ => 0) HQ4.out
          have HX := Lib.hid (fin4 (HR3.out.below hb4) (gbelow HG3.out hb4) hpq hqs HQ4.out (byK (ofK x x2)))
          clear hb4 HP0
          generalize byK (ofK x x2) = F at *
          go_wp2
          exact bodyPost_ret (v := .tuple #[SV F, errV 22 (j + 1)]) (ret4t Tryz.results134 rfl rfl HX.out.1) rfl (by rw [HP.out]; exact ⟨HX.out.2.2, ⟨F, rfl⟩, by omega, k, HX.out.2.1⟩)
        · have HP := Lib.hid (show R = .ok (byK (ofK x x2)) k by rw [HP0.out, if_neg hlx])
          go_wp2_with fail
          refine (of_any x x2 _).mono ?_
          rintro e w4 ⟨rfl, hb4⟩
          have HQ4 := Lib.hid ((hb4.block _ (Array.getElem?_eq_some_iff.1 HQ3.out).1).trans HQ3.out)
          obtain ⟨⟨d0, d1, d2, d3⟩, f0, f1, f2, f3⟩ := open4 (f := fun _ => 0) HQ4.out
          have HX := Lib.hid (fin4 (HR3.out.below hb4) (gbelow HG3.out hb4) hpq hqs HQ4.out (byK (ofK x x2)))
          have HW := Lib.hid (wf_byK (ofK x x2))
          clear hb4 HP0
          generalize byK (ofK x x2) = F at *
          go_wp2
          exact bodyPost_ret (v := .tuple #[SV F, .nilIface]) (ret4t Tryz.results134 rfl rfl HX.out.1) rfl (by rw [HP.out]; exact ⟨HX.out.2.2, rfl, HW.out, HX.out.2.1⟩)
    · have HP := Lib.hid (show R = .ok (byK (ofK x x)) j by rw [HE2.out]; dsimp only; rw [if_neg (by rw [← HY.out]; exact hm)])
      have hm' : (y != 45) = true := by simp [hm]
      go_wp2_with (first | (go_at_call 44; refine HN.out.mono ?_; rintro e w' ⟨rfl, rfl⟩))
      refine (of_any x x _).mono ?_
      rintro e w2 ⟨rfl, hb2⟩
      have HQ2 := Lib.hid ((hb2.block _ (Array.getElem?_eq_some_iff.1 HQ1.out).1).trans HQ1.out)
      obtain ⟨⟨d0, d1, d2, d3⟩, f0, f1, f2, f3⟩ := open4 (f := fun _ => 0) HQ2.out
      have HX := Lib.hid (fin4 (HR1.out.below hb2) (gbelow HG1.out hb2) hpq hqs HQ2.out (byK (ofK x x)))
      have HW := Lib.hid (wf_byK (ofK x x))
      clear hb2 HE2
      generalize byK (ofK x x) = F at *
      go_wp2
      exact bodyPost_ret (v := .tuple #[SV F, .nilIface]) (ret4t Tryz.results134 rfl rfl HX.out.1) rfl (by rw [HP.out]; exact ⟨HX.out.2.2, rfl, HW.out, HX.out.2.1⟩)
theorem hexP_lt {N : Nat → Int} {i j : Nat} {a : Int} (h : hexP N i = .ok a j) : i < j := by
  unfold hexP at h
  split at h
  · cases h
  · split at h
    · cases h
    · cases h; omega
theorem escP_lt {N : Nat → Int} {i j : Nat} {a : Int} (h : escP N i = .ok a j) : i < j := by
  unfold escP at h
  split at h
  · have := hexP_lt h; omega
  · split at h
    · cases h; omega
    · split at h
      · cases h; omega
      · split at h
        · cases h; omega
        · cases h
theorem oneP_lt {N : Nat → Int} {cls : Bool} {i j : Nat} {a : Int} (h : oneP N cls i = .ok a j) : i < j := by
  unfold oneP at h
  split at h
  · have := escP_lt h; omega
  · split at h
    · cases h; omega
    · cases h
theorem itemP_lt {N : Nat → Int} {i j : Nat} {f : Nat → Int} (h : itemP N i = .ok f j) : i < j := by
  unfold itemP at h
  split at h
  · cases h
  · rename_i a k hk
    have h1 := oneP_lt hk
    split at h
    · split at h
      · cases h
      · rename_i b m hm
        have h2 := oneP_lt hm
        split at h
        · cases h
        · cases h; omega
    · cases h; omega
/-- The items of a class, to its end; so many at most. -/
def itemsP (N : Nat → Int) : Nat → (Nat → Int) → Nat → Rs (Nat → Int)
  | 0, _, i => .er 20 i
  | n + 1, s, i => match itemP N i with
    | .er e k => .er e k
    | .ok t j => if N j = 93 then .ok (orS s t) (j + 1) else itemsP N n (orS s t) j
/-- In the midst of a class. -/
def ItR (w : World) (p q : Nat) (C : Cx) (deep cop : Nat) (R : Rs (Nat → Int)) (gk : Nat) (wr : World) : Prop :=
  ∃ (s : Nat → Int) (j : Nat), R = itemsP (nx C.S) gk s j ∧ C.S.size < j + gk ∧ Wf s ∧ Rd wr p C j deep cop ∧ w.grownBy wr (some p) ∧ wr.heap[q]? = some (.cells (row4 fun _ => 0) 28 (0, 0)) ∧ wr.heap[q + 1]? = some (.cells (row4 s) 28 (0, 0))
theorem below_of_put {w : World} {B g : Nat} (f : Nat → Int) (hg : B ≤ g) : Below B w (put4 w g f) := put4_below f (Below.refl _ _) hg
set_option maxRecDepth 100000 in
set_option maxHeartbeats 2000000 in
theorem items_any (w : World) (p : Nat) (C : Cx) (i deep cop : Nat) (h : Rd w p C i deep cop) : Calls Tryz.prog 122 #[rp p] w (PS w p C deep cop (itemsP (nx C.S) (C.S.size + 1) (fun _ => 0) i)) := by
  have hpq := h.lt
  have hz := h.sz
  have H := Lib.hid h
  clear h
  obtain ⟨R, hR⟩ : ∃ R, R = itemsP (nx C.S) (C.S.size + 1) (fun _ => 0) i := ⟨_, rfl⟩
  rw [← hR]
  have HE := Lib.hid hR
  clear hR
  obtain ⟨q, hqq⟩ : ∃ q, q = w.heap.size := ⟨_, rfl⟩
  have hqs : w.heap.size ≤ q := by omega
  go_enter Tryz.func122, Tryz.ntmps122
  go_wp2
  rw [← hqq]
  have HQQ := Lib.hid hqq
  clear hqq
  go_loopg [5] (C.S.size + 1) (fun gk _ wr => ItR w p q C deep cop R gk wr)
  case atStart =>
    have hb : Below w.heap.size w ((w.alloc (.cells (row4 fun _ => 0) 28)).alloc (.cells (row4 fun _ => 0) 28)) := (alloc_below _ _).alloc (by simp) _
    exact ⟨_, i, HE.out, by omega, wf0, H.out.below hb, grown_of_below hb _, by rw [HQQ.out]; exact (Below.heap_alloc _ _ _ (by simp)).trans (heap_alloc_new _ _), by rw [HQQ.out]; have := heap_alloc_new (w.alloc (.cells (row4 fun _ => 0) 28)) (.cells (row4 fun _ => 0) 28); simpa using this⟩
  case round =>
    obtain ⟨s, j, hRR, hgk, hws, hR0, hG0, hQ0, hS0⟩ := hrel
    have hj := hR0.le
    cases gk with
    | zero => omega
    | succ gk =>
    have HRR := Lib.hid hRR
    have HI := Lib.hid (item_any wr p C j deep cop hR0)
    have HG0 := Lib.hid hG0
    have HQ0 := Lib.hid hQ0
    have HS0 := Lib.hid hS0
    have HWS := Lib.hid hws
    clear hRR hR0 hG0 hQ0 hS0 hws H HE
    go_wp2_with fail
    refine HI.out.mono ?_
    intro e w1 h1
    have hsz0 := HG0.out.size
    cases hr1 : itemP (nx C.S) j with
    | er c k =>
      rw [hr1] at h1
      have HP := Lib.hid (show R = .er c k by rw [HRR.out, itemsP, hr1])
      obtain ⟨hG1, ⟨f, rfl⟩, hk, j1, hR1⟩ := h1
      have hQ1 := box_on HQ0.out (show p ≠ q by omega) hG1
      have HQ2 := Lib.hid ((Below.heap_alloc w1 (.cells (row4 f) 28) q (Array.getElem?_eq_some_iff.1 hQ1).1).trans hQ1)
      obtain ⟨⟨d0, d1, d2, d3⟩, f0, f1, f2, f3⟩ := open4 (f := fun _ => 0) HQ2.out
      have HX := Lib.hid (fin4 (hR1.below (alloc_below w1 (.cells (row4 f) 28))) (gbelow (gtrans HG0.out hG1) (alloc_below w1 (.cells (row4 f) 28))) hpq hqs HQ2.out fun _ => 0)
      clear hG1 hR1 hQ1 hr1 HRR HI
      go_wp2
      exact bodyPost_ret (v := .tuple #[SV (fun _ => 0), errV c k]) (ret4t Tryz.results122 rfl rfl HX.out.1) rfl (by rw [HP.out]; exact ⟨HX.out.2.2, ⟨_, rfl⟩, hk, j1, HX.out.2.1⟩)
    | ok f k =>
      have hjk := itemP_lt hr1
      rw [hr1] at h1
      have HP := Lib.hid (show R = if nx C.S k = 93 then .ok (orS s f) (k + 1) else itemsP (nx C.S) gk (orS s f) k by rw [HRR.out, itemsP, hr1])
      obtain ⟨hG1, rfl, hwf, hR1⟩ := h1
      have hQ1 := box_on HQ0.out (show p ≠ q by omega) hG1
      have hS1 := box_on HS0.out (show p ≠ q + 1 by omega) hG1
      have hb1 := alloc_below w1 (.cells (row4 f) 28)
      have HQ2 := Lib.hid ((hb1.block q (Array.getElem?_eq_some_iff.1 hQ1).1).trans hQ1)
      have HS2 := Lib.hid ((hb1.block (q + 1) (Array.getElem?_eq_some_iff.1 hS1).1).trans hS1)
      have HR2 := Lib.hid (hR1.below hb1)
      have HG2 := Lib.hid (gbelow (gtrans HG0.out hG1) hb1)
      have HWF := Lib.hid hwf
      obtain ⟨⟨d0, d1, d2, d3⟩, f0, f1, f2, f3⟩ := open4 HS2.out
      clear hG1 hR1 hQ1 hS1 hb1 hr1 HRR HI hwf HQ0 HS0
      go_wp2_with fail
      refine (or_any s f _).mono ?_
      rintro e w3 ⟨rfl, hb3⟩
      have HQ3 := Lib.hid ((hb3.block q (Array.getElem?_eq_some_iff.1 HQ2.out).1).trans HQ2.out)
      have HS3 := Lib.hid ((hb3.block (q + 1) (Array.getElem?_eq_some_iff.1 HS2.out).1).trans HS2.out)
      have HX := Lib.hid (fin4 (HR2.out.below hb3) (gbelow HG2.out hb3) hpq (show w.heap.size ≤ q + 1 by omega) HS3.out (orS s f))
      have HQX := Lib.hid ((put4_other w3 (q + 1) q (orS s f) (by omega)).trans HQ3.out)
      have HWO := Lib.hid (wf_or HWS.out HWF.out)
      clear d0 d1 d2 d3 f0 f1 f2 f3 hb3 HQ2 HS2 HR2 HG2
      obtain ⟨⟨d0, d1, d2, d3⟩, f0, f1, f2, f3⟩ := open4 HS3.out
      generalize orS s f = F at *
      have HN := Lib.hid (next_any _ p C k deep cop HX.out.2.1)
      obtain ⟨y, hy⟩ : ∃ y, y = nx C.S k := ⟨_, rfl⟩
      rw [← hy] at HN HP
      have HY := Lib.hid hy
      clear hy
      have hle := HX.out.2.1.le
      by_cases hm : y = 93
      · have HPP := Lib.hid (show R = .ok F (k + 1) by rw [HP.out, if_pos hm])
        have hlt := nx_lt (S := C.S) (i := k) (by rw [← HY.out]; omega)
        subst hm
        go_wp2_with fail
        refine HN.out.mono ?_
        rintro e w4 ⟨rfl, hw⟩
        rw [hw] at HX HQX
        clear hw HN
        have HS := Lib.hid (HX.out.2.1.step (j := k + 1) (by omega) (v := (k : Int) + 1) (by omega))
        have HQ5 := Lib.hid (box_on HQX.out (show p ≠ q by omega) HS.out.2)
        have HS5 := Lib.hid (box_on HX.out.1 (show p ≠ q + 1 by omega) HS.out.2)
        have HY5 := Lib.hid (fin4 HS.out.1 (gtrans HX.out.2.2 HS.out.2) hpq hqs HQ5.out F)
        clear d0 d1 d2 d3 f0 f1 f2 f3
        obtain ⟨c0, c1, c2, c3, c4, c5⟩ := HX.out.2.1.cells
        have hf := HX.out.2.1.free 3
        obtain ⟨⟨d0, d1, d2, d3⟩, f0, f1, f2, f3⟩ := open4 (f := fun _ => 0) HQ5.out
        obtain ⟨⟨b0, b1, b2, b3⟩, _⟩ := open4 HS5.out
        go_wp2
        exact bodyPost_ret (v := .tuple #[SV F, .nilIface]) (ret4t Tryz.results122 rfl rfl HY5.out.1) rfl (by rw [HPP.out]; exact ⟨HY5.out.2.2, rfl, HWO.out, HY5.out.2.1⟩)
      · have HPP := Lib.hid (show R = itemsP (nx C.S) gk F k by rw [HP.out, if_neg hm])
        have hm' : (y == 93) = false := by simp [hm]
        go_wp2_with fail
        refine HN.out.mono ?_
        rintro e w4 ⟨rfl, hw⟩
        rw [hw] at HX HQX
        clear hw HN
        go_wp2
        go_roundg gk
        case rel => exact ⟨F, k, HPP.out, by omega, HWO.out, HX.out.2.1, HX.out.2.2, HQX.out, HX.out.1⟩
        case measure => omega
end Go.Proofs.YtnloepanbjgbaaaGreatDoor
