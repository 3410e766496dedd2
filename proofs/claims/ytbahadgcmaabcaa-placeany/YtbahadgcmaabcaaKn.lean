/- The laws PlaceMade and PlaceAny: the walks. -/
import Derived.Test.YtbahadgcmaabcaaKm
import Derived.Test.YtbahadgcmaabcaaMg
import Derived.Test.YtbahadgcmaabcaaBc
namespace Go.Proofs.Ytbahadgcmaabcaa
open Go.RowKit Go
set_option maxRecDepth 100000 in
set_option maxHeartbeats 1000000 in
theorem plmade_walk (a : Option Addr) (n cap : Nat) (F : Nat → Int) (w : World) (h : ByteRow w a n F) (hF : ∀ i, 0 ≤ F i ∧ F i < 256) (hn : n ≤ cap) (hc : cap ≤ maxLen) : Calls Try.prog 4 #[.slice a n cap] w fun e w' => e = .returned (.bool true) ∧ Below w.heap.size w w' := by
  have HMD : Hid (∀ w1, Below w.heap.size w w1 → Calls Try.prog 11 #[.slice a n cap] w1 (MadeI w1)) := Lib.hid fun w1 hb => made_any w1 a n cap F (h.below hb) hF hn hc
  have HAW := Lib.hid (awake9_any w)
  clear h hF hn hc
  go_enter Try.func4, Try.ntmps4
  go_wp2_with fail
  refine HAW.out.mono ?_
  rintro e w1 ⟨rfl, hb1⟩
  have HB1 := Lib.hid hb1
  clear hb1
  go_wp2_with fail
  refine (HMD.out w1 HB1.out).mono ?_
  rintro e w2 ⟨T, rfl, _, _, _, hL, hb2⟩
  have HB2 := Lib.hid (HB1.out.trans (hb2.mono HB1.out.size))
  have HSM := Lib.hid (placesame_any T w2 hL)
  rw [show T.val = nodeV T.k T.s T.lo T.hi (.slice T.a T.n T.cap) from rfl] at HSM
  clear hL hb2
  go_wp2_with fail
  refine HSM.out.mono ?_
  rintro e w3 ⟨rfl, hb3⟩
  have HB3 := Lib.hid (HB2.out.trans (hb3.mono HB2.out.size))
  clear hb3
  go_wp2
  go_ret
  exact ⟨rfl, HB3.out⟩
set_option maxRecDepth 100000 in
set_option maxHeartbeats 1000000 in
theorem plany_walk (t : Tr) (w : World) (hL : Lives w w.heap.size t) : Calls Try.prog 3 #[t.val] w fun e w' => e = .returned (.bool true) ∧ Below w.heap.size w w' := by
  have HL := Lib.hid hL
  clear hL
  show Calls Try.prog 3 #[nodeV t.k t.s t.lo t.hi (.slice t.a t.n t.cap)] w _
  obtain ⟨z, hz⟩ : ∃ b : Int, b = nodesI t 300 := ⟨_, rfl⟩
  have HZ := Lib.hid hz
  clear hz
  have hb0 := alloc_below w (.cells (row8 t.k t.s t.lo t.hi (.slice t.a t.n t.cap)) 27)
  have HX0 := Lib.hid (heap_alloc_new w (.cells (row8 t.k t.s t.lo t.hi (.slice t.a t.n t.cap)) 27))
  have HB0 := Lib.hid hb0
  clear hb0
  go_enter Try.func3, Try.ntmps3
  go_wp2_with fail
  refine (awake9_any _).mono ?_
  rintro e w1 ⟨rfl, hb1⟩
  have HB1 := Lib.hid (HB0.out.trans (hb1.mono HB0.out.size))
  have HX1 := Lib.hid ((hb1.block _ (lt_heap HX0.out)).trans HX0.out)
  clear hb1 HX0
  obtain ⟨x0, x1, x2, x3, x4, x5, x6, x7⟩ := cell8 HX1.out
  have HN := Lib.hid (nodes_any t 300 w1 (by omega) (HL.out.now HB1.out))
  rw [show t.val = nodeV t.k t.s t.lo t.hi (.slice t.a t.n t.cap) from rfl, ← HZ.out] at HN
  go_wp2_with fail
  refine HN.out.mono ?_
  rintro e w2 ⟨rfl, hb2⟩
  have HB2 := Lib.hid (HB1.out.trans (hb2.mono HB1.out.size))
  have HX2 := Lib.hid ((hb2.block _ (lt_heap HX1.out)).trans HX1.out)
  clear hb2 x0 x1 x2 x3 x4 x5 x6 x7
  obtain ⟨x0, x1, x2, x3, x4, x5, x6, x7⟩ := cell8 HX2.out
  have HS := Lib.hid (placesame_any t w2 (HL.out.now HB2.out))
  rw [show t.val = nodeV t.k t.s t.lo t.hi (.slice t.a t.n t.cap) from rfl] at HS
  by_cases q : z < 0
  · go_wp2
    go_ret
    exact ⟨rfl, HB2.out⟩
  · go_wp2_with fail
    refine HS.out.mono ?_
    rintro e w3 ⟨rfl, hb3⟩
    have HB3 := Lib.hid (HB2.out.trans (hb3.mono HB2.out.size))
    clear hb3
    go_wp2
    go_ret
    exact ⟨rfl, HB3.out⟩
end Go.Proofs.Ytbahadgcmaabcaa
