/- The law PlaceTimes: the walk. -/
import Derived.Test.YtbahadgcmaabcaaKm
import Derived.Test.YtbahadgcmaabcaaMg
import Derived.Test.YtbahadgcmaabcaaBc
namespace Go.Proofs.Ytbahadgcmaabcaa
open Go.RowKit Go
def repT9 (g : Nat) (lo hi : Int) (t : Tr) : Tr := .node 5 z0 lo hi (some ⟨g, 0, none⟩) 1 1 fun _ => t
theorem rep_lives9 {w : World} {g : Nat} {t : Tr} (hL : Lives w w.heap.size t) (h : w.heap[g]? = some (.cells (row8 t.k t.s t.lo t.hi (.slice t.a t.n t.cap)) 27 (0, 0))) (lo hi : Int) : Lives w w.heap.size (repT9 g lo hi t) :=
  ⟨wf_z0, Nat.le_refl _, by unfold maxLen; omega, fun _ => ⟨g, 0, rfl, lt_heap h, fun i hi => by
    obtain rfl : i = 0 := by omega
    obtain ⟨d0, d1, d2, d3, d4, d5, d6, d7⟩ := cell8 h
    exact ⟨d0, d1, d2, d3, d4, d5, d6, d7⟩⟩, fun _ _ => hL⟩
set_option maxRecDepth 100000 in
set_option maxHeartbeats 2000000 in
theorem pltimes_walk (a : Option Addr) (n cap : Nat) (F : Nat → Int) (lo more : Int) (star : Bool) (w : World) (h : ByteRow w a n F) (hF : ∀ i, 0 ≤ F i ∧ F i < 256) (hn : n ≤ cap) (hc : cap ≤ maxLen) (hlo : 0 ≤ lo ∧ lo < 256) (hmo : 0 ≤ more ∧ more < 256) : Calls Try.prog 5 #[.slice a n cap, .int .u8 lo, .int .u8 more, .bool star] w fun e w' => e = .returned (.bool true) ∧ Below w.heap.size w w' := by
  have HMD : Hid (∀ w1, Below w.heap.size w w1 → Calls Try.prog 11 #[.slice a n cap] w1 (MadeI w1)) := Lib.hid fun w1 hb => made_any w1 a n cap F (h.below hb) hF hn hc
  have l0 := hlo.1
  have l1 := hlo.2
  have m0 := hmo.1
  have m1 := hmo.2
  clear h hF hn hc hlo hmo
  go_enter Try.func5, Try.ntmps5
  go_wp2_with fail
  refine (HMD.out w (Below.refl _ _)).mono ?_
  rintro e w1 ⟨T, rfl, hok, hs, -, hL, hb1⟩
  have HB1 := Lib.hid hb1
  have hb2 := alloc_below w1 (.cells (row8 T.k T.s T.lo T.hi (.slice T.a T.n T.cap)) 27)
  have HB2 := Lib.hid (hb1.trans (hb2.mono hb1.size))
  have HX2 := Lib.hid (heap_alloc_new w1 (.cells (row8 T.k T.s T.lo T.hi (.slice T.a T.n T.cap)) 27))
  have HL2 := Lib.hid (hL.now hb2)
  have HOK := Lib.hid hok
  have HSZ := Lib.hid (refsize_any T _ (fit_of_ok hok) HL2.out)
  rw [show T.val = nodeV T.k T.s T.lo T.hi (.slice T.a T.n T.cap) from rfl] at HSZ
  have hmin : min 1000000 (sz T) = sz T := by omega
  rw [hmin] at HSZ
  clear hL hb1 hb2 hok hs hmin
  go_upto_region 2 with fail
  obtain ⟨W2, hw⟩ : ∃ x, x = w1.alloc (.cells (row8 T.k T.s T.lo T.hi (.slice T.a T.n T.cap)) 27) := ⟨_, rfl⟩
  obtain ⟨p, hp⟩ : ∃ q, q = w1.heap.size := ⟨_, rfl⟩
  rw [← hw] at HB2 HL2 HSZ
  rw [← hw, ← hp] at HX2
  rw [← hw, ← hp]
  clear hw hp HB1
  obtain ⟨x0, x1, x2, x3, x4, x5, x6, x7⟩ := cell8 HX2.out
  go_wp2_with fail
  refine HSZ.out.mono ?_
  rintro e w3 ⟨rfl, hb3⟩
  have HB3 := Lib.hid (HB2.out.trans (hb3.mono HB2.out.size))
  have HX3 := Lib.hid ((hb3.block _ (lt_heap HX2.out)).trans HX2.out)
  have HL3 := Lib.hid (HL2.out.now hb3)
  clear hb3 HX2 HL2 HSZ x0 x1 x2 x3 x4 x5 x6 x7
  by_cases q : 12 < sz T
  · have hq : (12 : Int) < ((sz T : Nat) : Int) := by omega
    go_wp2_with fail
    refine (awake9_any w3).mono ?_
    rintro e w4 ⟨rfl, hb4⟩
    have HB4 := Lib.hid (HB3.out.trans (hb4.mono HB3.out.size))
    go_wp2
    go_ret
    exact ⟨rfl, HB4.out⟩
  · have hq : ¬ (12 : Int) < ((sz T : Nat) : Int) := by omega
    obtain ⟨x0, x1, x2, x3, x4, x5, x6, x7⟩ := cell8 HX3.out
    have k0 : 0 ≤ lo % 7 ∧ lo % 7 ≤ 6 := by omega
    have j0 : 0 ≤ more % 6 ∧ more % 6 ≤ 5 := by omega
    go_upto_region 6 with fail
    obtain ⟨k, hk⟩ : ∃ k, k = lo % 7 := ⟨_, rfl⟩
    rw [← hk]
    obtain ⟨H, hH⟩ : ∃ H : Int, H = if 1 < k + more % 6 then k + more % 6 else 1 := ⟨_, rfl⟩
    rw [← hH]
    have HA5 := heap_alloc2_old w3 (.cells (row8 T.k T.s T.lo T.hi (.slice T.a T.n T.cap)) 27) (.cells #[.int .i64 5, .int .u64 0, .int .u64 0, .int .u64 0, .int .u64 0, .int .i64 k, .int .i64 H, .slice (some ⟨w3.heap.size, 0, none⟩) 1 1] 27)
    have HY5 := heap_alloc2_new w3 (.cells (row8 T.k T.s T.lo T.hi (.slice T.a T.n T.cap)) 27) (.cells #[.int .i64 5, .int .u64 0, .int .u64 0, .int .u64 0, .int .u64 0, .int .i64 k, .int .i64 H, .slice (some ⟨w3.heap.size, 0, none⟩) 1 1] 27)
    have hb5 := alloc2_below w3 (.cells (row8 T.k T.s T.lo T.hi (.slice T.a T.n T.cap)) 27) (.cells #[.int .i64 5, .int .u64 0, .int .u64 0, .int .u64 0, .int .u64 0, .int .i64 k, .int .i64 H, .slice (some ⟨w3.heap.size, 0, none⟩) 1 1] 27)
    obtain ⟨W5, hw⟩ : ∃ x, x = (w3.alloc (.cells (row8 T.k T.s T.lo T.hi (.slice T.a T.n T.cap)) 27)).alloc (.cells #[.int .i64 5, .int .u64 0, .int .u64 0, .int .u64 0, .int .u64 0, .int .i64 k, .int .i64 H, .slice (some ⟨w3.heap.size, 0, none⟩) 1 1] 27) := ⟨_, rfl⟩
    obtain ⟨g, hg⟩ : ∃ q, q = w3.heap.size := ⟨_, rfl⟩
    rw [← hw] at HA5 HY5 hb5
    rw [← hw]
    rw [← hg] at HA5 HY5
    rw [← hg]
    have HB5 := Lib.hid (HB3.out.trans (hb5.mono HB3.out.size))
    have HL5 := Lib.hid (HL3.out.now hb5)
    have HG := Lib.hid (show w.heap.size ≤ g + 1 by have := HB3.out.size; omega)
    have HA := Lib.hid HA5
    have HBS := Lib.hid (hb5.setCell (show w3.heap.size ≤ (⟨g + 1, 6, none⟩ : Addr).block by show w3.heap.size ≤ g + 1; omega) (.int .i64 (-1)))
    clear hw hg hb5 hH hk HX3 HA5 k0 j0 x0 x1 x2 x3 x4 x5 x6 x7
    cases star with
    | false =>
      go_wp2_with fail
      refine (awake9_any W5).mono ?_
      rintro e w6 ⟨rfl, hb6⟩
      have HB6 := Lib.hid (HB5.out.trans (hb6.mono HB5.out.size))
      have hY6 : w6.heap[g + 1]? = some (.cells (row8 5 z0 k H (.slice (some ⟨g, 0, none⟩) 1 1)) 27 (0, 0)) := (hb6.block _ (lt_heap HY5)).trans HY5
      have HS := Lib.hid (placesame_any (repT9 g k H T) w6 (rep_lives9 (HL5.out.now hb6) ((hb6.block _ (lt_heap HA.out)).trans HA.out) k H))
      rw [show (repT9 g k H T).val = nodeV 5 z0 k H (.slice (some ⟨g, 0, none⟩) 1 1) from rfl] at HS
      obtain ⟨x0, x1, x2, x3, x4, x5, x6, x7⟩ := cell8 hY6
      clear hb6 hY6 HY5
      go_wp2_with fail
      refine HS.out.mono ?_
      rintro e w7 ⟨rfl, hb7⟩
      have HB7 := Lib.hid (HB6.out.trans (hb7.mono HB6.out.size))
      go_wp2
      go_ret
      exact ⟨rfl, HB7.out⟩
    | true =>
      have f6 := frozen_of_row _ _ 6 _ _ HY5
      obtain ⟨y0, y1, y2, y3, y4, y5, y6, y7⟩ := cell8 (show W5.heap[g + 1]? = some (.cells (row8 5 z0 k H (.slice (some ⟨g, 0, none⟩) 1 1)) 27 (0, 0)) from HY5)
      go_wp2_with fail
      have hY5' : (W5.setCell ⟨g + 1, 6, none⟩ (.int .i64 (-1))).heap[g + 1]? = some (.cells (row8 5 z0 k (-1) (.slice (some ⟨g, 0, none⟩) 1 1)) 27 (0, 0)) := by
        rw [heap_setCell_same _ _ 6 _ _ (.int .i64 (-1)) HY5]; simp
      have hA5' : (W5.setCell ⟨g + 1, 6, none⟩ (.int .i64 (-1))).heap[g]? = some (.cells (row8 T.k T.s T.lo T.hi (.slice T.a T.n T.cap)) 27 (0, 0)) := by
        rw [heap_setCell_other _ _ _ _ (show g ≠ g + 1 by omega)]; exact HA.out
      have hL5' := HL3.out.now HBS.out
      have HB5' := Lib.hid (HB3.out.trans (HBS.out.mono HB3.out.size))
      obtain ⟨W6, hw⟩ : ∃ x, x = W5.setCell ⟨g + 1, 6, none⟩ (.int .i64 (-1)) := ⟨_, rfl⟩
      rw [← hw] at hY5' hA5' hL5' HB5'
      rw [← hw]
      clear hw HBS HA HB5 HL5 HY5 HL3 HB3 f6 y0 y1 y2 y3 y4 y5 y6 y7
      refine (awake9_any W6).mono ?_
      rintro e w6 ⟨rfl, hb6⟩
      have HB6 := Lib.hid (HB5'.out.trans (hb6.mono HB5'.out.size))
      have hY6 : w6.heap[g + 1]? = some (.cells (row8 5 z0 k (-1) (.slice (some ⟨g, 0, none⟩) 1 1)) 27 (0, 0)) := (hb6.block _ (lt_heap hY5')).trans hY5'
      have HS := Lib.hid (placesame_any (repT9 g k (-1) T) w6 (rep_lives9 (hL5'.now hb6) ((hb6.block _ (lt_heap hA5')).trans hA5') k (-1)))
      rw [show (repT9 g k (-1) T).val = nodeV 5 z0 k (-1) (.slice (some ⟨g, 0, none⟩) 1 1) from rfl] at HS
      obtain ⟨x0, x1, x2, x3, x4, x5, x6, x7⟩ := cell8 hY6
      clear hb6 hY6 hY5' hA5' hL5'
      go_wp2_with fail
      refine HS.out.mono ?_
      rintro e w7 ⟨rfl, hb7⟩
      have HB7 := Lib.hid (HB6.out.trans (hb7.mono HB6.out.size))
      go_wp2
      go_ret
      exact ⟨rfl, HB7.out⟩
end Go.Proofs.Ytbahadgcmaabcaa
