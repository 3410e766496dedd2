/- The law RxMade: the walk. -/
import Derived.Test.YtadiphijfbpcnaaDoorMg
namespace Go.Proofs.YtadiphijfbpcnaaDoor
open Go.RowKit
set_option maxRecDepth 100000 in
set_option maxHeartbeats 4000000 in
theorem made_walk (w : World) (a : Option Addr) (n cap : Nat) (F : Nat → Int) (a' : Option Addr) (n' cap' : Nat) (F' : Nat → Int) (h : ByteRow w a n F) (h' : ByteRow w a' n' F') (hF : ∀ i, 0 ≤ F i ∧ F i < 256) (hF' : ∀ i, 0 ≤ F' i ∧ F' i < 256) (hn : n ≤ cap) (hc : cap ≤ maxLen) (hn' : n' ≤ cap') (hc' : cap' ≤ maxLen) :
    Calls Tryd.prog 4 #[.slice a n cap, .slice a' n' cap'] w fun e w' => e = .returned (.bool true) ∧ Below w.heap.size w w' := by
  have H1 := Lib.hid (made_any w a n cap F h hF hn hc)
  have H2 := Lib.hid (fun w1 (hb : Below w.heap.size w w1) => made_any w1 a' n' cap' F' (h'.below hb) hF' hn' hc')
  clear h h' hF hF' hn hc hn' hc'
  go_enter Tryd.func4, Tryd.ntmps4
  go_wp2_with fail
  refine H1.out.mono ?_
  rintro e w1 ⟨t, rfl, ot, st, ct, lt, hb1⟩
  have RT := Lib.hid (made_right ot st ct)
  have CT := Lib.hid (show cnt t ≤ 2000 by omega)
  have LT := Lib.hid lt
  clear ot st ct lt
  go_wp2_with fail
  refine (H2.out w1 hb1).mono ?_
  rintro e w2 ⟨u, rfl, _, _, _, lu, hb2⟩
  have LT2 := Lib.hid (LT.out.now hb2)
  have LU := Lib.hid lu
  have hB2 := hb1.trans (hb2.mono hb1.size)
  clear hb1 hb2 lu LT H1 H2
  go_wp2_with fail
  have hb3 := alloc2_below w2 (.cells (row8 t.k t.s t.lo t.hi (.slice t.a t.n t.cap)) 27) (.cells (row8 u.k u.s u.lo u.hi (.slice u.a u.n u.cap)) 27)
  have HP0 := Lib.hid (heap_alloc2_old w2 (.cells (row8 t.k t.s t.lo t.hi (.slice t.a t.n t.cap)) 27) (.cells (row8 u.k u.s u.lo u.hi (.slice u.a u.n u.cap)) 27))
  have HQ0 := Lib.hid (heap_alloc2_new w2 (.cells (row8 t.k t.s t.lo t.hi (.slice t.a t.n t.cap)) 27) (.cells (row8 u.k u.s u.lo u.hi (.slice u.a u.n u.cap)) 27))
  refine (awake_any _).mono ?_
  rintro e w3 ⟨rfl, hb4⟩
  have hb5 := hb3.trans (hb4.mono hb3.size)
  have hB3 := hB2.trans (hb5.mono hB2.size)
  have LT3 := Lib.hid (LT2.out.now hb5)
  have LU3 := Lib.hid (LU.out.now hb5)
  have HP3 := Lib.hid ((hb4.block _ (Array.getElem?_eq_some_iff.1 HP0.out).1).trans HP0.out)
  have HQ3 := Lib.hid ((hb4.block _ (Array.getElem?_eq_some_iff.1 HQ0.out).1).trans HQ0.out)
  clear hb3 hb4 hb5 HP0 HQ0 LT2 LU hB2
  obtain ⟨a0, a1, a2, a3, a4, a5, a6, a7⟩ := cell8 HP3.out
  obtain ⟨b0, b1, b2, b3, b4, b5, b6, b7⟩ := cell8 HQ3.out
  go_wp2_with fail
  refine (lawsame_any t u w3 LT3.out LU3.out CT.out).mono ?_
  rintro e w4 ⟨rfl, hb4⟩
  have hB4 := hB3.trans (hb4.mono hB3.size)
  have HP4 := Lib.hid ((hb4.block _ (Array.getElem?_eq_some_iff.1 HP3.out).1).trans HP3.out)
  have LT4 := Lib.hid (LT3.out.now hb4)
  clear hb4 hB3 HP3 HQ3 LT3 LU3 a0 a1 a2 a3 a4 a5 a6 a7 b0 b1 b2 b3 b4 b5 b6 b7
  obtain ⟨a0, a1, a2, a3, a4, a5, a6, a7⟩ := cell8 HP4.out
  go_wp2_with fail
  refine (lawsame_any t t w4 LT4.out LT4.out CT.out).mono ?_
  rintro e w5 ⟨rfl, hb5⟩
  have hB5 := hB4.trans (hb5.mono hB4.size)
  have HP5 := Lib.hid ((hb5.block _ (Array.getElem?_eq_some_iff.1 HP4.out).1).trans HP4.out)
  have LT5 := Lib.hid (LT4.out.now hb5)
  clear hb5 hB4 HP4 LT4 a0 a1 a2 a3 a4 a5 a6 a7
  obtain ⟨a0, a1, a2, a3, a4, a5, a6, a7⟩ := cell8 HP5.out
  go_wp2_with fail
  refine (right_any t w5 LT5.out).mono ?_
  rintro e w6 ⟨rfl, hb6⟩
  rw [RT.out]
  have hB6 := hB5.trans (hb6.mono hB5.size)
  clear hb6 hB5 HP5 LT5 a0 a1 a2 a3 a4 a5 a6 a7
  go_wp2
  go_ret
  exact ⟨rfl, hB6⟩
end Go.Proofs.YtadiphijfbpcnaaDoor
