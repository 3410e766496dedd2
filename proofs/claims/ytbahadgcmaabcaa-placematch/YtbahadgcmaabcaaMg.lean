/- The law's Made: a right pattern by numbers. -/
import Derived.Test.YtbahadgcmaabcaaMf
import Derived.Test.YtbahadgcmaabcaaBc
namespace Go.Proofs.Ytbahadgcmaabcaa
open Go.RowKit
/-- A row of bytes in memory. -/
def ByteRow (w : World) (a : Option Addr) (n : Nat) (F : Nat → Int) : Prop := 0 < n → ∃ g off, a = some ⟨g, off, none⟩ ∧ g < w.heap.size ∧ ∀ i, i < n → w.cell? ⟨g, off + i, none⟩ = some (.int .u8 (F i))
set_option maxRecDepth 100000 in
theorem ByteRow.below {w w' : World} {a : Option Addr} {n : Nat} {F : Nat → Int} (h : ByteRow w a n F) (hb : Below w.heap.size w w') : ByteRow w' a n F := fun hn => by
  obtain ⟨g, off, ha, hg, hc⟩ := h hn
  exact ⟨g, off, ha, Nat.lt_of_lt_of_le hg hb.size, fun i hi => (hb.cell (p := ⟨g, _, none⟩) hg).trans (hc i hi)⟩
set_option maxRecDepth 100000 in
theorem ByteRow.part {w : World} {a : Option Addr} {n m : Nat} {F : Nat → Int} (h : ByteRow w a n F) (hm : m ≤ n) : ByteRow w a m F := fun hn => by
  obtain ⟨g, off, ha, hg, hc⟩ := h (by omega)
  exact ⟨g, off, ha, hg, fun i hi => hc i (by omega)⟩
/-- What Made gives back. -/
def MadeI (w : World) (e : Ending) (w' : World) : Prop :=
  ∃ t : Tr, e = .returned (nodeV t.k t.s t.lo t.hi (.slice t.a t.n t.cap)) ∧ okT t 20 = true ∧ sz t ≤ 40 ∧ (cnt t ≤ 100 ∧ sml t) ∧ Lives w' w'.heap.size t ∧ Below w.heap.size w w'
set_option maxRecDepth 100000 in
theorem made_right {t : Tr} (h : okT t 20 = true) (hs : sz t ≤ 40) (hc : cnt t ≤ 100) : rightB t = true := by
  simp only [rightB, h, Bool.true_and, Bool.and_eq_true, decide_eq_true_eq]; omega
set_option maxRecDepth 100000 in
theorem sz_char (s : Nat → Int) : sz (lfT 2 s) = 1 := by
  rw [sz_eq]; simp [lfT, ownT, timT, Tr.k]
set_option maxRecDepth 100000 in
theorem mk_new {w : World} {o : Obj} {a : Option Addr} {n cap : Nat} {F : Nat → Int} (h : ByteRow w a n F) : Mk ((w.alloc o).alloc (.cells #[.slice a n cap, .int .i64 0] 54)) (w.heap.size + 1) a n cap F 0 := by
  refine ⟨by simpa using heap_alloc_new (w.alloc o) (.cells #[.slice a n cap, .int .i64 0] 54), fun hn => ?_⟩
  obtain ⟨g, off, ha, hg, hc⟩ := h hn
  have hb : Below w.heap.size w ((w.alloc o).alloc (.cells #[.slice a n cap, .int .i64 0] 54)) := (alloc_below _ _).alloc (by simp) _
  exact ⟨g, off, ha, by omega, fun i hi => (hb.cell (p := ⟨g, _, none⟩) hg).trans (hc i hi)⟩
set_option maxRecDepth 100000 in
theorem grown_below_p {w w1 w2 : World} {p : Nat} (h : Below w.heap.size w w1) (hG : w1.grownBy w2 (some p)) (hp : w.heap.size ≤ p) : Below w.heap.size w w2 :=
  h.trans ((Below.refl w.heap.size w1).grown hG h.size fun k hk => by have : p = k := by simpa using hk
                                                                      omega)
set_option maxRecDepth 100000 in
theorem made_char {w w3 : World} {f : Nat → Int} (hK : LfOk 2 f) (hB : Below w.heap.size w w3) : MadeI w (.returned (nodeV 2 f 0 0 (.slice none 0 0))) (put8 w3 w.heap.size 2 f 0 0 (.slice none 0 0)) := by
  obtain ⟨h1, h2, h3⟩ := lf_ok hK
  refine ⟨lfT 2 f, rfl, okT_mono h1 (by omega), ?_, ⟨?_, lf_sml hK⟩, h3 _ _, hB.trans (put8_below w3 (Nat.le_refl _) 2 f 0 0 (.slice none 0 0))⟩
  · have := sz_char f; omega
  · omega
set_option maxRecDepth 100000 in
set_option maxHeartbeats 4000000 in
theorem made_any (w : World) (a : Option Addr) (n cap : Nat) (F : Nat → Int) (h : ByteRow w a n F) (hF : ∀ i, 0 ≤ F i ∧ F i < 256) (hn : n ≤ cap) (hc : cap ≤ maxLen) : Calls Try.prog 11 #[.slice a n cap] w (MadeI w) := by
  have HF := Lib.hid hF
  unfold maxLen at hc
  clear hF
  by_cases h30 : n ≤ 30
  · have HROW := Lib.hid h
    have i1 : ¬ ((30 : Int) < (n : Int)) := by omega
    clear h
    go_enter Try.func11, Try.ntmps11
    go_wp2_with fail
    refine (mrx_any 4 4 _ (w.heap.size + 1) a n cap F 0 (by omega) (by omega) (by omega) (mk_new (o := .cells (row8 0 z0 0 0 (.slice none 0 0)) 27) HROW.out) HF.out (by omega) (by omega)).mono ?_
    rintro e w1 ⟨t, rfl, ot, ct, lt, A1, _, _, hG1⟩
    have hb0 : Below w.heap.size w ((w.alloc (.cells (row8 0 z0 0 0 (.slice none 0 0)) 27)).alloc (.cells #[.slice a n cap, .int .i64 0] 54)) := (alloc_below _ _).alloc (by simp) _
    have HB1 := Lib.hid (grown_below_p hb0 hG1 (by omega))
    have HR1 := Lib.hid (show w1.heap[w.heap.size]? = some (.cells (row8 0 z0 0 0 (.slice none 0 0)) 27 (0, 0)) from (hG1.block _ (by simp; omega) (by simp)).trans ((Below.heap_alloc _ _ _ (by simp)).trans (heap_alloc_new _ _)))
    have OT := Lib.hid (okT_mono ot (show 4 + 1 ≤ 20 by omega))
    have CT := Lib.hid (show cnt t ≤ 100 ∧ sml t from ⟨by have := ct.1; omega, ct.2⟩)
    have LT := Lib.hid lt
    clear ot ct lt hb0 hG1
    go_wp2_with fail
    refine (refsize_any t _ (fit_of_ok OT.out) (LT.out.now (alloc_below w1 _))).mono ?_
    rintro e w2 ⟨rfl, hb2⟩
    have HX2 := Lib.hid (show w2.heap[w1.heap.size]? = some (.cells (row8 t.k t.s t.lo t.hi (.slice t.a t.n t.cap)) 27 (0, 0)) from box_kept hb2)
    have hb3 := box_below hb2
    have HR2 := Lib.hid ((hb3.block _ (Array.getElem?_eq_some_iff.1 HR1.out).1).trans HR1.out)
    have HB2 := Lib.hid (HB1.out.trans (hb3.mono HB1.out.size))
    have LT2 := Lib.hid (LT.out.now hb3)
    clear hb2 hb3 HR1 HB1 LT
    generalize w1.heap.size = x at *
    obtain ⟨S, hS⟩ : ∃ S, S = sz t := ⟨_, rfl⟩
    rw [← hS]
    have HS := Lib.hid hS
    clear hS
    by_cases h40 : 40 < S
    · have hm : (40 : Int) < ((min 1000000 S : Nat) : Int) := by omega
      generalize ((min 1000000 S : Nat) : Int) = M at *
      go_wp2_with fail
      refine (char_any 97 _).mono ?_
      rintro e w3 ⟨rfl, hb3⟩
      have HR3 := Lib.hid ((hb3.block _ (Array.getElem?_eq_some_iff.1 HR2.out).1).trans HR2.out)
      have HB3 := Lib.hid (HB2.out.trans (hb3.mono HB2.out.size))
      have HK := Lib.hid (lf_char (b := 97) (by omega) (by omega))
      generalize sE 97 97 = f at *
      obtain ⟨f0, f1, f2, f3, f4, f5, f6, f7⟩ := frozen8 (s := z0) HR3.out
      obtain ⟨d0, d1, d2, d3, d4, d5, d6, d7⟩ := cell8 (s := z0) HR3.out
      have HX := Lib.hid (stored8 2 f 0 0 (.slice none 0 0) HR3.out)
      have HFIN := Lib.hid (made_char HK.out HB3.out)
      clear hb3 HR2 HB2 LT2 HX2
      go_wp2
      exact bodyPost_ret (v := nodeV 2 f 0 0 (.slice none 0 0)) (ret8 Try.results11 rfl HX.out) rfl HFIN.out
    · have hm : ((min 1000000 S : Nat) : Int) ≤ 40 := by omega
      have HS4 := Lib.hid (show sz t ≤ 40 by rw [← HS.out]; omega)
      generalize ((min 1000000 S : Nat) : Int) = M at *
      clear h40 HS
      have hmd : decide ((40 : Int) < M) = false := by simp; omega
      obtain ⟨f0, f1, f2, f3, f4, f5, f6, f7⟩ := frozen8 (s := z0) HR2.out
      obtain ⟨d0, d1, d2, d3, d4, d5, d6, d7⟩ := cell8 (s := z0) HR2.out
      obtain ⟨c0, c1, c2, c3, c4, c5, c6, c7⟩ := cell8 HX2.out
      have HX := Lib.hid (stored8 t.k t.s t.lo t.hi (.slice t.a t.n t.cap) HR2.out)
      have HLX := Lib.hid (Lives.put8 HR2.out OT.out LT2.out t.k t.s t.lo t.hi (.slice t.a t.n t.cap))
      have HFIN := Lib.hid (show MadeI w (.returned (nodeV t.k t.s t.lo t.hi (.slice t.a t.n t.cap))) (put8 w2 w.heap.size t.k t.s t.lo t.hi (.slice t.a t.n t.cap)) from ⟨t, rfl, OT.out, HS4.out, CT.out, HLX.out, HB2.out.trans (put8_below w2 (Nat.le_refl _) t.k t.s t.lo t.hi (.slice t.a t.n t.cap))⟩)
      clear HX2 LT2 HR2 HB2 HLX HS4 CT OT HROW HF hc hn i1
      go_wp2
      exact bodyPost_ret (v := nodeV t.k t.s t.lo t.hi (.slice t.a t.n t.cap)) (ret8 Try.results11 rfl HX.out) rfl HFIN.out
  · obtain ⟨g, off, rfl, _, _⟩ := h (by omega)
    have HROW := Lib.hid (h.part (m := 30) (by omega))
    have i1 : (30 : Int) < (n : Int) := by omega
    have i2 : (30 : Int) ≤ (cap : Int) := by omega
    have i3 : 30 ≤ cap := by omega
    clear h
    go_enter Try.func11, Try.ntmps11
    go_wp2_with fail
    refine (mrx_any 4 4 _ (w.heap.size + 1) (some ⟨g, off, none⟩) 30 cap F 0 (by omega) (by omega) (by omega) (mk_new (o := .cells (row8 0 z0 0 0 (.slice none 0 0)) 27) HROW.out) HF.out (by omega) (by omega)).mono ?_
    rintro e w1 ⟨t, rfl, ot, ct, lt, A1, _, _, hG1⟩
    have hb0 : Below w.heap.size w ((w.alloc (.cells (row8 0 z0 0 0 (.slice none 0 0)) 27)).alloc (.cells #[.slice (some ⟨g, off, none⟩) 30 cap, .int .i64 0] 54)) := (alloc_below _ _).alloc (by simp) _
    have HB1 := Lib.hid (grown_below_p hb0 hG1 (by omega))
    have HR1 := Lib.hid (show w1.heap[w.heap.size]? = some (.cells (row8 0 z0 0 0 (.slice none 0 0)) 27 (0, 0)) from (hG1.block _ (by simp; omega) (by simp)).trans ((Below.heap_alloc _ _ _ (by simp)).trans (heap_alloc_new _ _)))
    have OT := Lib.hid (okT_mono ot (show 4 + 1 ≤ 20 by omega))
    have CT := Lib.hid (show cnt t ≤ 100 ∧ sml t from ⟨by have := ct.1; omega, ct.2⟩)
    have LT := Lib.hid lt
    clear ot ct lt hb0 hG1
    go_wp2_with fail
    refine (refsize_any t _ (fit_of_ok OT.out) (LT.out.now (alloc_below w1 _))).mono ?_
    rintro e w2 ⟨rfl, hb2⟩
    have HX2 := Lib.hid (show w2.heap[w1.heap.size]? = some (.cells (row8 t.k t.s t.lo t.hi (.slice t.a t.n t.cap)) 27 (0, 0)) from box_kept hb2)
    have hb3 := box_below hb2
    have HR2 := Lib.hid ((hb3.block _ (Array.getElem?_eq_some_iff.1 HR1.out).1).trans HR1.out)
    have HB2 := Lib.hid (HB1.out.trans (hb3.mono HB1.out.size))
    have LT2 := Lib.hid (LT.out.now hb3)
    clear hb2 hb3 HR1 HB1 LT
    generalize w1.heap.size = x at *
    obtain ⟨S, hS⟩ : ∃ S, S = sz t := ⟨_, rfl⟩
    rw [← hS]
    have HS := Lib.hid hS
    clear hS
    by_cases h40 : 40 < S
    · have hm : (40 : Int) < ((min 1000000 S : Nat) : Int) := by omega
      generalize ((min 1000000 S : Nat) : Int) = M at *
      go_wp2_with fail
      refine (char_any 97 _).mono ?_
      rintro e w3 ⟨rfl, hb3⟩
      have HR3 := Lib.hid ((hb3.block _ (Array.getElem?_eq_some_iff.1 HR2.out).1).trans HR2.out)
      have HB3 := Lib.hid (HB2.out.trans (hb3.mono HB2.out.size))
      have HK := Lib.hid (lf_char (b := 97) (by omega) (by omega))
      generalize sE 97 97 = f at *
      obtain ⟨f0, f1, f2, f3, f4, f5, f6, f7⟩ := frozen8 (s := z0) HR3.out
      obtain ⟨d0, d1, d2, d3, d4, d5, d6, d7⟩ := cell8 (s := z0) HR3.out
      have HX := Lib.hid (stored8 2 f 0 0 (.slice none 0 0) HR3.out)
      have HFIN := Lib.hid (made_char HK.out HB3.out)
      clear hb3 HR2 HB2 LT2 HX2
      go_wp2
      exact bodyPost_ret (v := nodeV 2 f 0 0 (.slice none 0 0)) (ret8 Try.results11 rfl HX.out) rfl HFIN.out
    · have hm : ((min 1000000 S : Nat) : Int) ≤ 40 := by omega
      have HS4 := Lib.hid (show sz t ≤ 40 by rw [← HS.out]; omega)
      generalize ((min 1000000 S : Nat) : Int) = M at *
      clear h40 HS
      have hmd : decide ((40 : Int) < M) = false := by simp; omega
      obtain ⟨f0, f1, f2, f3, f4, f5, f6, f7⟩ := frozen8 (s := z0) HR2.out
      obtain ⟨d0, d1, d2, d3, d4, d5, d6, d7⟩ := cell8 (s := z0) HR2.out
      obtain ⟨c0, c1, c2, c3, c4, c5, c6, c7⟩ := cell8 HX2.out
      have HX := Lib.hid (stored8 t.k t.s t.lo t.hi (.slice t.a t.n t.cap) HR2.out)
      have HLX := Lib.hid (Lives.put8 HR2.out OT.out LT2.out t.k t.s t.lo t.hi (.slice t.a t.n t.cap))
      have HFIN := Lib.hid (show MadeI w (.returned (nodeV t.k t.s t.lo t.hi (.slice t.a t.n t.cap))) (put8 w2 w.heap.size t.k t.s t.lo t.hi (.slice t.a t.n t.cap)) from ⟨t, rfl, OT.out, HS4.out, CT.out, HLX.out, HB2.out.trans (put8_below w2 (Nat.le_refl _) t.k t.s t.lo t.hi (.slice t.a t.n t.cap))⟩)
      clear HX2 LT2 HR2 HB2 HLX HS4 CT OT HROW HF hc hn i1
      go_wp2
      exact bodyPost_ret (v := nodeV t.k t.s t.lo t.hi (.slice t.a t.n t.cap)) (ret8 Try.results11 rfl HX.out) rfl HFIN.out
end Go.Proofs.Ytbahadgcmaabcaa
