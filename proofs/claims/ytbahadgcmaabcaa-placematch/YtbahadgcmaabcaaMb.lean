/- The law's maker: leaf, a pattern without parts. -/
import Derived.Test.YtbahadgcmaabcaaMs
namespace Go.Proofs.Ytbahadgcmaabcaa
open Go.RowKit
set_option maxRecDepth 100000 in
theorem Mk.belowB {w w' : World} {B p : Nat} {a : Option Addr} {n cap : Nat} {F : Nat → Int} {A : Nat} (h : Mk w p a n cap F A) (hp : p < B) (hb : Below B w w') : Mk w' p a n cap F A := by
  refine ⟨(hb.block p hp).trans h.box, fun hn => ?_⟩
  obtain ⟨g, off, ha, hg, hc⟩ := h.row hn
  exact ⟨g, off, ha, hg, fun i hi => (hb.cell (p := ⟨g, _, none⟩) (Nat.lt_trans hg hp)).trans (hc i hi)⟩
set_option maxRecDepth 100000 in
theorem grown_then {w w1 w2 : World} {row : Option Nat} (h : w.grownBy w1 row) (hb : Below w.heap.size w1 w2) : w.grownBy w2 row :=
  ⟨hb.os.trans h.os, hb.tape.trans h.tape, hb.output.trans h.output, Nat.le_trans h.size hb.size, fun k hk hn => (hb.block k hk).trans (h.block k hk hn)⟩
abbrev put8 (w : World) (g : Nat) (k : Int) (s : Nat → Int) (lo hi : Int) (v : Value) : World :=
  (((((((w.setCell ⟨g, 0, none⟩ (.int .i64 k)).setCell ⟨g, 1, none⟩ (.int .u64 (s 0))).setCell ⟨g, 2, none⟩ (.int .u64 (s 1))).setCell ⟨g, 3, none⟩ (.int .u64 (s 2))).setCell ⟨g, 4, none⟩ (.int .u64 (s 3))).setCell ⟨g, 5, none⟩ (.int .i64 lo)).setCell ⟨g, 6, none⟩ (.int .i64 hi)).setCell ⟨g, 7, none⟩ v
set_option maxRecDepth 100000 in
theorem put8_below (w : World) {B g : Nat} (hg : B ≤ g) (k : Int) (s : Nat → Int) (lo hi : Int) (v : Value) : Below B w (put8 w g k s lo hi v) :=
  ((((((((Below.refl _ w).setCell (show B ≤ (⟨g, 0, none⟩ : Addr).block from hg) _).setCell (show B ≤ (⟨g, 1, none⟩ : Addr).block from hg) _).setCell (show B ≤ (⟨g, 2, none⟩ : Addr).block from hg) _).setCell (show B ≤ (⟨g, 3, none⟩ : Addr).block from hg) _).setCell (show B ≤ (⟨g, 4, none⟩ : Addr).block from hg) _).setCell (show B ≤ (⟨g, 5, none⟩ : Addr).block from hg) _).setCell (show B ≤ (⟨g, 6, none⟩ : Addr).block from hg) _).setCell (show B ≤ (⟨g, 7, none⟩ : Addr).block from hg) _
set_option maxRecDepth 100000 in
/-- The eight stores into the result's box, which is younger than the maker. -/
theorem fin8 {w w1 : World} {q p : Nat} {a : Option Addr} {n cap : Nat} {F : Nat → Int} {A : Nat} (hM : Mk w1 p a n cap F A) (hG : w.grownBy w1 (some p)) (hp : p < q) (hq : w.heap.size ≤ q) {k0 lo0 hi0 : Int} {z : Nat → Int} {v0 : Value} (hr : w1.heap[q]? = some (.cells (row8 k0 z lo0 hi0 v0) 27 (0, 0))) (k : Int) (s : Nat → Int) (lo hi : Int) (v : Value) :
    (put8 w1 q k s lo hi v).heap[q]? = some (.cells (row8 k s lo hi v) 27 (0, 0)) ∧ Mk (put8 w1 q k s lo hi v) p a n cap F A ∧ w.grownBy (put8 w1 q k s lo hi v) (some p) :=
  ⟨stored8 k s lo hi v hr, hM.belowB hp (put8_below w1 (Nat.le_refl _) k s lo hi v), grown_then hG (put8_below w1 hq k s lo hi v)⟩
/-- A pattern without parts. -/
def lfT (k : Int) (s : Nat → Int) : Tr := .node k s 0 0 none 0 0 fun _ => .nul
def LfOk (k : Int) (s : Nat → Int) : Prop := (k = 1 ∧ s = z0) ∨ (k = 2 ∧ Wf s ∧ eqS s z0 = false ∧ runsN s ≤ 2)
set_option maxRecDepth 100000 in
theorem lf_ok {k : Int} {s : Nat → Int} (h : LfOk k s) : okT (lfT k s) 1 = true ∧ cnt (lfT k s) = 1 ∧ ∀ w B, Lives w B (lfT k s) := by
  rcases h with ⟨rfl, rfl⟩ | ⟨rfl, hw, hs, _⟩
  · refine ⟨?_, rfl, fun w B => ⟨wf_z0, Nat.le_refl _, by unfold maxLen; omega, fun h => by omega, fun i h => by omega⟩⟩
    simp [lfT, okT, fitsB, Tr.k, Tr.s, Tr.lo, Tr.hi, Tr.n, plainB, eq_z0, allTo]
  · exact ⟨ok_leafT hs (by omega), rfl, fun w B => lives_leaf w B hw⟩
set_option maxRecDepth 100000 in
theorem lf_sml {k : Int} {s : Nat → Int} (h : LfOk k s) : sml (lfT k s) := by
  rcases h with ⟨rfl, rfl⟩ | ⟨rfl, _, _, hr⟩
  · exact ⟨runs_z0, fun i hi => by omega⟩
  · exact ⟨hr, fun i hi => by omega⟩
set_option maxRecDepth 100000 in
theorem lf_char {b : Int} (h0 : 0 ≤ b) (h1 : b < 256) : LfOk 2 (sE b b) := Or.inr ⟨rfl, wf_acc _, ne_E h0 (by omega) h1, runs_E h0⟩
/-- What leaf gives back. -/
def Lfs (w : World) (p : Nat) (a : Option Addr) (n cap : Nat) (F : Nat → Int) (A : Nat) (e : Ending) (w' : World) : Prop :=
  ∃ k s, e = .returned (nodeV k s 0 0 (.slice none 0 0)) ∧ LfOk k s ∧ ∃ A', A' ≤ A + 2 ∧ Mk w' p a n cap F A' ∧ w.grownBy w' (some p)
set_option maxRecDepth 100000 in
theorem of_ac : LfOk 2 (sE 97 99) := Or.inr ⟨rfl, wf_acc _, ne_E (by omega) (by omega) (by omega), runs_E (by omega)⟩
set_option maxRecDepth 100000 in
theorem ne_not : LfOk 2 (accAll fun b => !hasI (sE 97 97) b) := by
  refine Or.inr ⟨rfl, wf_acc _, ?_, runs_notE⟩
  cases h : eqS (accAll fun b => !hasI (sE 97 97) b) z0
  · rfl
  · have := hasI_congr h 0
    rw [hasI_acc _ (by omega) (by omega), hasI_z0, hasI_acc _ (by omega) (by omega)] at this
    simp [ofK] at this
set_option maxRecDepth 100000 in
theorem box_grown {w w1 : World} {o : Obj} {p : Nat} (hp : p < w.heap.size) (h : (w.alloc o).grownBy w1 (some p)) : w1.heap[w.heap.size]? = some o ∧ w.grownBy w1 (some p) :=
  ⟨(h.block _ (by simp) (by simp; omega)).trans (heap_alloc_new _ _), grownBy_trans (grown_of_below (alloc_below w o) _) h⟩
set_option maxRecDepth 100000 in
theorem box_on {w w1 : World} {g p : Nat} {o : Obj} (h : w.heap[g]? = some o) (hp : p ≠ g) (hG : w.grownBy w1 (some p)) : w1.heap[g]? = some o :=
  (hG.block _ (Array.getElem?_eq_some_iff.1 h).1 (by simp; omega)).trans h
set_option maxRecDepth 100000 in
theorem frozen8 {w : World} {g : Nat} {k : Int} {s : Nat → Int} {lo hi : Int} {v : Value} {e : Nat} (hr : w.heap[g]? = some (.cells (row8 k s lo hi v) e (0, 0))) : w.frozen? ⟨g, 0, none⟩ = false ∧ w.frozen? ⟨g, 1, none⟩ = false ∧ w.frozen? ⟨g, 2, none⟩ = false ∧ w.frozen? ⟨g, 3, none⟩ = false ∧ w.frozen? ⟨g, 4, none⟩ = false ∧ w.frozen? ⟨g, 5, none⟩ = false ∧ w.frozen? ⟨g, 6, none⟩ = false ∧ w.frozen? ⟨g, 7, none⟩ = false :=
  ⟨frozen_of_row _ _ 0 _ _ hr, frozen_of_row _ _ 1 _ _ hr, frozen_of_row _ _ 2 _ _ hr, frozen_of_row _ _ 3 _ _ hr, frozen_of_row _ _ 4 _ _ hr, frozen_of_row _ _ 5 _ _ hr, frozen_of_row _ _ 6 _ _ hr, frozen_of_row _ _ 7 _ _ hr⟩
set_option maxRecDepth 100000 in
/-- The byte that leaf picks. -/
theorem six {r : Int} (h0 : 0 ≤ r) (h6 : r < 6) {w : World} {g : Nat} (h : w.heap[g]? = some (.cells #[.int .i64 10, .int .i64 45, .int .i64 90, .int .i64 0, .int .i64 255, .int .i64 48] 3 (0, 0))) :
    ∃ b : Int, 0 ≤ b ∧ b < 256 ∧ w.cell? ⟨g, r.toNat, none⟩ = some (.int .i64 b) := by
  have : r = 0 ∨ r = 1 ∨ r = 2 ∨ r = 3 ∨ r = 4 ∨ r = 5 := by omega
  rcases this with rfl | rfl | rfl | rfl | rfl | rfl
  · exact ⟨10, by omega, by omega, cell_of_row w g 0 _ _ _ h⟩
  · exact ⟨45, by omega, by omega, cell_of_row w g 1 _ _ _ h⟩
  · exact ⟨90, by omega, by omega, cell_of_row w g 2 _ _ _ h⟩
  · exact ⟨0, by omega, by omega, cell_of_row w g 3 _ _ _ h⟩
  · exact ⟨255, by omega, by omega, cell_of_row w g 4 _ _ _ h⟩
  · exact ⟨48, by omega, by omega, cell_of_row w g 5 _ _ _ h⟩
set_option maxRecDepth 100000 in
set_option maxHeartbeats 4000000 in
theorem leaf_any (w : World) (p : Nat) (a : Option Addr) (n cap : Nat) (F : Nat → Int) (A : Nat) (h : Mk w p a n cap F A) (hF : ∀ i, 0 ≤ F i ∧ F i < 256) (hn : n ≤ 30) (hA : A ≤ 900) :
    Calls Try.prog 33 #[.pointer (some ⟨p, 0, none⟩)] w (Lfs w p a n cap F A) := by
  have HF := Lib.hid hF
  have hpq := h.lt
  obtain ⟨f1, hf1⟩ : ∃ f, f = sE 97 99 := ⟨_, rfl⟩
  obtain ⟨f2, hf2⟩ : ∃ f, f = sE 97 97 := ⟨_, rfl⟩
  obtain ⟨f3, hf3⟩ : ∃ f, f = accAll fun b => !hasI (sE 97 97) b := ⟨_, rfl⟩
  have HO1 := Lib.hid (fun w => (refof_any 97 99 w).mono (fun e w' h => (show e = .returned (SV f1) ∧ Below w.heap.size w w' from ⟨by rw [h.1, hf1], h.2⟩)))
  have HO2 := Lib.hid (fun w => (refof_any 97 97 w).mono (fun e w' h => (show e = .returned (SV f2) ∧ Below w.heap.size w w' from ⟨by rw [h.1, hf2], h.2⟩)))
  have HO3 := Lib.hid (fun w => (refnot_any f2 w).mono (fun e w' h => (show e = .returned (SV f3) ∧ Below w.heap.size w w' from ⟨by rw [h.1, hf3, hf2], h.2⟩)))
  have HK1 := Lib.hid (show LfOk 2 f1 by rw [hf1]; exact of_ac)
  have HK3 := Lib.hid (show LfOk 2 f3 by rw [hf3]; exact ne_not)
  clear hf1 hf2 hf3
  go_enter Try.func33, Try.ntmps33
  go_wp2_with fail
  refine (pick_any 8 (by omega) (by omega) _ p a n cap F A (h.below (alloc_below w _)) hF hn (by omega)).mono ?_
  rintro e w1 ⟨r, rfl, hr0, hr8, hM1, hG1⟩
  obtain ⟨hR1, hG1⟩ := box_grown hpq hG1
  clear h hF
  have HM1 := Lib.hid hM1
  have HG1 := Lib.hid hG1
  have HR1 := Lib.hid hR1
  clear hM1 hG1 hR1
  have hq : w.heap.size < w1.heap.size := (Array.getElem?_eq_some_iff.1 HR1.out).1
  obtain ⟨q, hqq⟩ : ∃ q, q = w.heap.size := ⟨_, rfl⟩
  have hqs : w.heap.size ≤ q := by omega
  rw [← hqq] at HR1 hpq hq ⊢
  clear hqq
  by_cases e0 : r = 0
  · subst e0
    obtain ⟨f0, f1', f2', f3', f4, f5, f6, f7⟩ := frozen8 (s := z0) HR1.out
    obtain ⟨d0, d1, d2, d3, d4, d5, d6, d7⟩ := cell8 (s := z0) HR1.out
    have HX := Lib.hid (fin8 (s := z0) (z := z0) HM1.out HG1.out hpq hqs HR1.out 1 0 0 (.slice none 0 0))
    go_wp2
    refine bodyPost_ret (v := nodeV 1 z0 0 0 (.slice none 0 0)) (ret8 (s := z0) Try.results33 rfl HX.out.1) rfl ⟨1, z0, rfl, Or.inl ⟨rfl, rfl⟩, A + 1, by omega, HX.out.2.1, HX.out.2.2⟩
  have n0 : (r == 0) = false := by simp [e0]
  by_cases e1 : r = 1
  · subst e1
    go_wp2_with fail
    refine (HO1.out _).mono ?_
    rintro e w2 ⟨rfl, hb2⟩
    have HM2 := Lib.hid (HM1.out.below hb2)
    have HG2 := Lib.hid (grownBy_trans HG1.out (grown_of_below hb2 (some p)))
    have HR2 := Lib.hid ((hb2.block _ hq).trans HR1.out)
    clear hb2 HM1 HG1 HR1
    obtain ⟨f0, f1', f2', f3', f4, f5, f6, f7⟩ := frozen8 (s := z0) HR2.out
    obtain ⟨d0, d1, d2, d3, d4, d5, d6, d7⟩ := cell8 (s := z0) HR2.out
    have HX := Lib.hid (fin8 (s := f1) (z := z0) HM2.out HG2.out hpq hqs HR2.out 2 0 0 (.slice none 0 0))
    go_wp2
    refine bodyPost_ret (v := nodeV 2 f1 0 0 (.slice none 0 0)) (ret8 Try.results33 rfl HX.out.1) rfl ⟨2, f1, rfl, HK1.out, A + 1, by omega, HX.out.2.1, HX.out.2.2⟩
  have n1 : (r == 1) = false := by simp [e1]
  by_cases e2 : r = 2
  · subst e2
    go_wp2_with fail
    refine (HO2.out _).mono ?_
    rintro e w2 ⟨rfl, hb2⟩
    have HM2 := Lib.hid (HM1.out.below hb2)
    have HG2 := Lib.hid (grownBy_trans HG1.out (grown_of_below hb2 (some p)))
    have HR2 := Lib.hid ((hb2.block _ hq).trans HR1.out)
    have hq2 := Nat.lt_of_lt_of_le hq hb2.size
    clear hb2 HM1 HG1 HR1
    go_wp2_with fail
    refine (HO3.out _).mono ?_
    rintro e w3 ⟨rfl, hb3⟩
    have HM3 := Lib.hid (HM2.out.below hb3)
    have HG3 := Lib.hid (grownBy_trans HG2.out (grown_of_below hb3 (some p)))
    have HR3 := Lib.hid ((hb3.block _ hq2).trans HR2.out)
    clear hb3 HM2 HG2 HR2
    obtain ⟨f0, f1', f2', f3', f4, f5, f6, f7⟩ := frozen8 (s := z0) HR3.out
    obtain ⟨d0, d1, d2, d3, d4, d5, d6, d7⟩ := cell8 (s := z0) HR3.out
    have HX := Lib.hid (fin8 (s := f3) (z := z0) HM3.out HG3.out hpq hqs HR3.out 2 0 0 (.slice none 0 0))
    go_wp2
    refine bodyPost_ret (v := nodeV 2 f3 0 0 (.slice none 0 0)) (ret8 Try.results33 rfl HX.out.1) rfl ⟨2, f3, rfl, HK3.out, A + 1, by omega, HX.out.2.1, HX.out.2.2⟩
  have n2 : (r == 2) = false := by simp [e2]
  by_cases e3 : r = 3
  · subst e3
    go_wp2_with fail
    obtain ⟨o6, ho6⟩ : ∃ o6, o6 = Obj.cells #[.int .i64 10, .int .i64 45, .int .i64 90, .int .i64 0, .int .i64 255, .int .i64 48] 3 (0, 0) := ⟨_, rfl⟩
    rw [← ho6]
    refine (pick_any 6 (by omega) (by omega) _ p a n cap F (A + 1) (HM1.out.below (alloc_below w1 _)) HF.out hn (by omega)).mono ?_
    rintro e w2 ⟨r, rfl, hr0, hr6, hM2, hG2⟩
    obtain ⟨h6, hG2⟩ := box_grown HM1.out.lt hG2
    rw [ho6] at h6
    obtain ⟨b, hb0, hb1, hcb⟩ := six hr0 hr6 h6
    have HM2 := Lib.hid hM2
    have HG2 := Lib.hid (grownBy_trans HG1.out hG2)
    have HR2 := Lib.hid (box_on HR1.out (by omega) hG2)
    have hq2 := Nat.lt_of_lt_of_le hq hG2.size
    clear hM2 hG2 HM1 HG1 HR1 h6 ho6
    go_wp2_with fail
    refine (char_any b _).mono ?_
    rintro e w3 ⟨rfl, hb3⟩
    have HK := Lib.hid (lf_char hb0 hb1)
    generalize sE b b = f4' at *
    have HM3 := Lib.hid (HM2.out.below hb3)
    have HG3 := Lib.hid (grownBy_trans HG2.out (grown_of_below hb3 (some p)))
    have HR3 := Lib.hid ((hb3.block _ hq2).trans HR2.out)
    clear hb3 HM2 HG2 HR2 hcb
    obtain ⟨f0, f1', f2', f3', f4, f5, f6, f7⟩ := frozen8 (s := z0) HR3.out
    obtain ⟨d0, d1, d2, d3, d4, d5, d6, d7⟩ := cell8 (s := z0) HR3.out
    have HX := Lib.hid (fin8 (s := f4') (z := z0) HM3.out HG3.out hpq hqs HR3.out 2 0 0 (.slice none 0 0))
    go_wp2
    refine bodyPost_ret (v := nodeV 2 f4' 0 0 (.slice none 0 0)) (ret8 Try.results33 rfl HX.out.1) rfl ⟨2, f4', rfl, HK.out, A + 2, by omega, HX.out.2.1, HX.out.2.2⟩
  have n3 : (r == 3) = false := by simp [e3]
  go_wp2_with fail
  refine (pick_any 3 (by omega) (by omega) _ p a n cap F (A + 1) HM1.out HF.out hn (by omega)).mono ?_
  rintro e w2 ⟨r', rfl, hr0', hr3, hM2, hG2⟩
  have HM2 := Lib.hid hM2
  have HG2 := Lib.hid (grownBy_trans HG1.out hG2)
  have HR2 := Lib.hid (box_on HR1.out (by omega) hG2)
  have hq2 := Nat.lt_of_lt_of_le hq hG2.size
  clear hM2 hG2 HM1 HG1 HR1
  go_wp2_with fail
  refine (char_any (97 + r') _).mono ?_
  rintro e w3 ⟨rfl, hb3⟩
  have HK := Lib.hid (lf_char (b := 97 + r') (by omega) (by omega))
  generalize sE (97 + r') (97 + r') = f4' at *
  have HM3 := Lib.hid (HM2.out.below hb3)
  have HG3 := Lib.hid (grownBy_trans HG2.out (grown_of_below hb3 (some p)))
  have HR3 := Lib.hid ((hb3.block _ hq2).trans HR2.out)
  clear hb3 HM2 HG2 HR2
  obtain ⟨f0, f1', f2', f3', f4, f5, f6, f7⟩ := frozen8 (s := z0) HR3.out
  obtain ⟨d0, d1, d2, d3, d4, d5, d6, d7⟩ := cell8 (s := z0) HR3.out
  have HX := Lib.hid (fin8 (s := f4') (z := z0) HM3.out HG3.out hpq hqs HR3.out 2 0 0 (.slice none 0 0))
  go_wp2
  refine bodyPost_ret (v := nodeV 2 f4' 0 0 (.slice none 0 0)) (ret8 Try.results33 rfl HX.out.1) rfl ⟨2, f4', rfl, HK.out, A + 2, by omega, HX.out.2.1, HX.out.2.2⟩
end Go.Proofs.Ytbahadgcmaabcaa
