/- The law's small of layer 6: a pattern of few places, by numbers. -/
import Derived.Test.YtnfchlkdppblfaaDoorMg
import Derived.Test.YtnfchlkdppblfaaDoorBc
namespace Go.Proofs.YtnfchlkdppblfaaDoor
open Go.RowKit
/-- What small gives back. -/
def SmlI (w : World) (p : Nat) (a : Option Addr) (n cap : Nat) (F : Nat → Int) (A : Nat) (e : Ending) (w' : World) : Prop :=
  ∃ t : Tr, e = .returned (nodeV t.k t.s t.lo t.hi (.slice t.a t.n t.cap)) ∧ okT t 20 = true ∧ sz t ≤ 12 ∧ (cnt t ≤ 100 ∧ sml t) ∧ Lives w' w'.heap.size t ∧ ∃ A', A' ≤ A + 16 ∧ Mk w' p a n cap F A' ∧ w.grownBy w' (some p)
set_option maxRecDepth 100000 in
set_option maxHeartbeats 4000000 in
theorem smallx_any (w : World) (p : Nat) (a : Option Addr) (n cap : Nat) (F : Nat → Int) (A : Nat) (h : Mk w p a n cap F A) (hF : ∀ i, 0 ≤ F i ∧ F i < 256) (hn : n ≤ 60) (hA : A + 16 ≤ 800) :
    Calls Tryd.prog 53 #[.pointer (some ⟨p, 0, none⟩)] w (SmlI w p a n cap F A) := by
  have HF := Lib.hid hF
  have HM := Lib.hid h
  have hpw := h.lt
  obtain ⟨f, hf⟩ : ∃ f, f = sE 98 98 := ⟨_, rfl⟩
  have HOF := Lib.hid (fun w => (refof_any 98 98 w).mono (fun e w' h => (show e = .returned (SV f) ∧ Below w.heap.size w w' from ⟨by rw [h.1, hf], h.2⟩)))
  have HK := Lib.hid (show LfOk 2 f from hf ▸ lf_char (b := 98) (by omega) (by omega))
  clear h hF hf
  go_enter Tryd.func53, Tryd.ntmps53
  go_wp2_with fail
  refine (mrx_any 2 2 _ p a n cap F A (by omega) (by omega) (by omega) (HM.out.below (alloc_below w _)) HF.out hn (by omega)).mono ?_
  rintro e w1 ⟨t, rfl, ot, ct, lt, A1, hA1, hM1, hG1⟩
  have HG1 := Lib.hid (grownBy_trans (grown_of_below (alloc_below w (.cells (row8 0 z0 0 0 (.slice none 0 0)) 28)) (some p)) hG1)
  have HR1 := Lib.hid (show w1.heap[w.heap.size]? = some (.cells (row8 0 z0 0 0 (.slice none 0 0)) 28 (0, 0)) from (hG1.block _ (by simp) (by intro e; have := Option.some.inj e; omega)).trans (heap_alloc_new _ _))
  have HM1 := Lib.hid hM1
  have OT := Lib.hid (okT_mono ot (show 2 + 1 ≤ 20 by omega))
  have CT := Lib.hid (show cnt t ≤ 100 ∧ sml t from ⟨by have := ct.1; omega, ct.2⟩)
  have LT := Lib.hid lt
  clear ot ct lt hG1 hM1
  go_wp2_with fail
  refine (refsize_any t _ (fit_of_ok OT.out) (LT.out.now (alloc_below w1 _))).mono ?_
  rintro e w2 ⟨rfl, hb2⟩
  have HX2 := Lib.hid (show w2.heap[w1.heap.size]? = some (.cells (row8 t.k t.s t.lo t.hi (.slice t.a t.n t.cap)) 28 (0, 0)) from box_kept hb2)
  have hb3 := box_below hb2
  have HR2 := Lib.hid ((hb3.block _ (Array.getElem?_eq_some_iff.1 HR1.out).1).trans HR1.out)
  have HG2 := Lib.hid (grownBy_trans HG1.out (grown_of_below hb3 (some p)))
  have HM2 := Lib.hid (HM1.out.below hb3)
  have LT2 := Lib.hid (LT.out.now hb3)
  clear hb2 hb3 HR1 HG1 LT HM1
  generalize w1.heap.size = x at *
  obtain ⟨S, hS⟩ : ∃ S, S = sz t := ⟨_, rfl⟩
  rw [← hS]
  have HS := Lib.hid hS
  clear hS
  by_cases h12 : 12 < S
  · have hm : (12 : Int) < ((min 1000000 S : Nat) : Int) := by omega
    generalize ((min 1000000 S : Nat) : Int) = M at *
    go_wp2_with fail
    refine (HOF.out _).mono ?_
    rintro e w3 ⟨rfl, hb3⟩
    have HR3 := Lib.hid ((hb3.block _ (Array.getElem?_eq_some_iff.1 HR2.out).1).trans HR2.out)
    have HG3 := Lib.hid (grownBy_trans HG2.out (grown_of_below hb3 (some p)))
    have HM3 := Lib.hid (HM2.out.below hb3)
    obtain ⟨f0, f1, f2, f3, f4, f5, f6, f7⟩ := frozen8 (s := z0) HR3.out
    obtain ⟨d0, d1, d2, d3, d4, d5, d6, d7⟩ := cell8 (s := z0) HR3.out
    have HX := Lib.hid (stored8 2 f 0 0 (.slice none 0 0) HR3.out)
    have HFIN := Lib.hid (show SmlI w p a n cap F A (.returned (nodeV 2 f 0 0 (.slice none 0 0))) (put8 w3 w.heap.size 2 f 0 0 (.slice none 0 0)) by
      obtain ⟨h1, h2, h3⟩ := lf_ok HK.out
      obtain ⟨_, g2, g3⟩ := fin8 HM3.out HG3.out hpw (Nat.le_refl _) HR3.out 2 f 0 0 (.slice none 0 0)
      exact ⟨lfT 2 f, rfl, okT_mono h1 (by omega), by have := sz_char f; omega, ⟨by omega, lf_sml HK.out⟩, h3 _ _, A1, by omega, g2, g3⟩)
    clear hb3 HR2 HG2 LT2 HX2 HM2 HM3 HG3
    go_wp2
    exact bodyPost_ret (v := nodeV 2 f 0 0 (.slice none 0 0)) (ret8 Tryd.results53 rfl HX.out) rfl HFIN.out
  · have hm : ((min 1000000 S : Nat) : Int) ≤ 12 := by omega
    have HS4 := Lib.hid (show sz t ≤ 12 by rw [← HS.out]; omega)
    generalize ((min 1000000 S : Nat) : Int) = M at *
    clear h12 HS
    have hmd : decide ((12 : Int) < M) = false := by simp; omega
    obtain ⟨f0, f1, f2, f3, f4, f5, f6, f7⟩ := frozen8 (s := z0) HR2.out
    obtain ⟨d0, d1, d2, d3, d4, d5, d6, d7⟩ := cell8 (s := z0) HR2.out
    obtain ⟨c0, c1, c2, c3, c4, c5, c6, c7⟩ := cell8 HX2.out
    have HX := Lib.hid (stored8 t.k t.s t.lo t.hi (.slice t.a t.n t.cap) HR2.out)
    have HLX := Lib.hid (Lives.put8 HR2.out OT.out LT2.out t.k t.s t.lo t.hi (.slice t.a t.n t.cap))
    have HFIN := Lib.hid (show SmlI w p a n cap F A (.returned (nodeV t.k t.s t.lo t.hi (.slice t.a t.n t.cap))) (put8 w2 w.heap.size t.k t.s t.lo t.hi (.slice t.a t.n t.cap)) by
      obtain ⟨_, g2, g3⟩ := fin8 HM2.out HG2.out hpw (Nat.le_refl _) HR2.out t.k t.s t.lo t.hi (.slice t.a t.n t.cap)
      exact ⟨t, rfl, OT.out, HS4.out, CT.out, HLX.out, A1, by omega, g2, g3⟩)
    clear HX2 LT2 HR2 HG2 HLX HS4 CT OT HF hn HM2
    go_wp2
    exact bodyPost_ret (v := nodeV t.k t.s t.lo t.hi (.slice t.a t.n t.cap)) (ret8 Tryd.results53 rfl HX.out) rfl HFIN.out
end Go.Proofs.YtnfchlkdppblfaaDoor
