/- The law RxAny: the walk. -/
import Derived.Test.YtadiphijfbpcnaaDoorLa
import Derived.Test.YtadiphijfbpcnaaDoorLc
namespace Go.Proofs.YtadiphijfbpcnaaDoor
open Go.RowKit
set_option maxRecDepth 100000 in
set_option maxHeartbeats 4000000 in
theorem any_walk (t u : Tr) (w : World) (hL : Lives w w.heap.size t) (hL' : Lives w w.heap.size u) : Calls Tryd.prog 3 #[t.val, u.val] w fun e w' => e = .returned (.bool true) ∧ Below w.heap.size w w' := by
  have HL := Lib.hid hL
  have HL' := Lib.hid hL'
  clear hL hL'
  show Calls Tryd.prog 3 #[nodeV t.k t.s t.lo t.hi (.slice t.a t.n t.cap), nodeV u.k u.s u.lo u.hi (.slice u.a u.n u.cap)] w _
  obtain ⟨ft, hft⟩ : ∃ b, b = decide (cnt t ≤ 1500) := ⟨_, rfl⟩
  obtain ⟨fu, hfu⟩ : ∃ b, b = decide (cnt u ≤ 1500) := ⟨_, rfl⟩
  have HFT := Lib.hid hft
  have HFU := Lib.hid hfu
  clear hft hfu
  go_enter Tryd.func3, Tryd.ntmps3
  go_wp2_with fail
  have hB0 := alloc2_below w (.cells (row8 t.k t.s t.lo t.hi (.slice t.a t.n t.cap)) 27) (.cells (row8 u.k u.s u.lo u.hi (.slice u.a u.n u.cap)) 27)
  have HP0 := Lib.hid (heap_alloc2_old w (.cells (row8 t.k t.s t.lo t.hi (.slice t.a t.n t.cap)) 27) (.cells (row8 u.k u.s u.lo u.hi (.slice u.a u.n u.cap)) 27))
  have HQ0 := Lib.hid (heap_alloc2_new w (.cells (row8 t.k t.s t.lo t.hi (.slice t.a t.n t.cap)) 27) (.cells (row8 u.k u.s u.lo u.hi (.slice u.a u.n u.cap)) 27))
  refine (awake_any _).mono ?_
  rintro e w1 ⟨rfl, hb1⟩
  have hB1 := hB0.trans (hb1.mono hB0.size)
  have HP1 := Lib.hid ((hb1.block _ (Array.getElem?_eq_some_iff.1 HP0.out).1).trans HP0.out)
  have HQ1 := Lib.hid ((hb1.block _ (Array.getElem?_eq_some_iff.1 HQ0.out).1).trans HQ0.out)
  clear hb1 hB0 HP0 HQ0
  obtain ⟨a0, a1, a2, a3, a4, a5, a6, a7⟩ := cell8 HP1.out
  go_wp2_with fail
  refine (few_any t w1 (HL.out.now hB1)).mono ?_
  rintro e w2 ⟨rfl, hb2⟩
  rw [← HFT.out]
  have hB2 := hB1.trans (hb2.mono hB1.size)
  have HP2 := Lib.hid ((hb2.block _ (Array.getElem?_eq_some_iff.1 HP1.out).1).trans HP1.out)
  have HQ2 := Lib.hid ((hb2.block _ (Array.getElem?_eq_some_iff.1 HQ1.out).1).trans HQ1.out)
  clear hb2 hB1 HP1 HQ1 a0 a1 a2 a3 a4 a5 a6 a7
  cases ft
  · go_wp2
    go_ret
    exact ⟨rfl, hB2⟩
  · obtain ⟨a0, a1, a2, a3, a4, a5, a6, a7⟩ := cell8 HQ2.out
    go_wp2_with fail
    refine (few_any u w2 (HL'.out.now hB2)).mono ?_
    rintro e w3 ⟨rfl, hb3⟩
    rw [← HFU.out]
    have hB3 := hB2.trans (hb3.mono hB2.size)
    have HP3 := Lib.hid ((hb3.block _ (Array.getElem?_eq_some_iff.1 HP2.out).1).trans HP2.out)
    have HQ3 := Lib.hid ((hb3.block _ (Array.getElem?_eq_some_iff.1 HQ2.out).1).trans HQ2.out)
    clear hb3 hB2 HP2 HQ2 a0 a1 a2 a3 a4 a5 a6 a7
    cases fu
    · go_wp2
      go_ret
      exact ⟨rfl, hB3⟩
    · obtain ⟨a0, a1, a2, a3, a4, a5, a6, a7⟩ := cell8 HP3.out
      obtain ⟨b0, b1, b2, b3, b4, b5, b6, b7⟩ := cell8 HQ3.out
      go_wp2_with fail
      refine (lawsame_any t u w3 (HL.out.now hB3) (HL'.out.now hB3) (by have := of_decide_eq_true HFT.out.symm; omega)).mono ?_
      rintro e w4 ⟨rfl, hb4⟩
      have hB4 := hB3.trans (hb4.mono hB3.size)
      clear hb4 a0 a1 a2 a3 a4 a5 a6 a7 b0 b1 b2 b3 b4 b5 b6 b7
      go_wp2
      go_ret
      exact ⟨rfl, hB4⟩
end Go.Proofs.YtadiphijfbpcnaaDoor
