/- The law SetBack answers true at every input, over the landed code: the walk. -/
import Derived.Test.YthloafbgfjhicaaN
import Derived.Test.YthloafbgfjhicaaV
import Derived.Test.YthloafbgfjhicaaG
namespace Go.Proofs.Ythloafbgfjhicaa
open Go.RowKit
set_option maxRecDepth 100000 in
set_option maxHeartbeats 8000000 in
theorem back_core (f : Nat → Int) (l ll : List Int) (N : Nat) (w : World) (hN : N ≤ 256)
    (k25 : Hid (∀ w, Calls Try.prog 25 #[SV f] w (GivesRuns w N l))) (k22 : Hid (∀ w, Calls Try.prog 22 #[SV f] w (GivesInts w ll)))
    (hok : Hid (∀ i, i < N → 0 ≤ lo l i ∧ lo l i ≤ hi l i ∧ hi l i < 256)) (hfar : Hid (∀ i, i + 1 < N → hi l i + 1 < lo l (i + 1))) (hsum : Hid (∀ i, i ≤ N → 0 ≤ sumN l i ∧ sumN l i ≤ 256 * (i : Int)))
    (q1 : ∀ wx, Sem.run Try.prog (binOp .eql 24 (SV (unionS l N)) (SV f)) wx = .ok (.bool true) wx) (q2 : (sumN l N == (ll.length : Int)) = true) :
    Calls Try.prog 6 #[SV f] w fun e w' => e = .returned (.bool true) ∧ Below w.heap.size w w' := by
  go_enter Try.func6, Try.ntmps6
  go_wp2_with fail
  refine (awake_any _).mono ?_
  rintro e w1 ⟨rfl, hb1⟩
  have HA1 := Lib.hid ((hb1.block w.heap.size (by simp)).trans (heap_alloc_new _ _))
  have hl1 : w.heap.size < w1.heap.size := by have := hb1.size; simp at this; omega
  have hB1 : Below w.heap.size w w1 := ((Below.refl _ _).alloc (Nat.le_refl _) _).trans (hb1.mono (by simp))
  obtain ⟨_, c0, c1, c2, c3⟩ := keep4 hl1 HA1.out (Below.refl _ _)
  clear hb1
  go_wp2_with fail
  refine (k25.out _).mono ?_
  rintro e w3 ⟨v6, rfl, ho6, hb3⟩
  have HU3 := Lib.hid ((hb3.block w1.heap.size (by simp)).trans (heap_alloc_new _ _))
  have HA3 := Lib.hid ((hb3.block w.heap.size (by simp; omega)).trans ((Below.heap_alloc _ _ _ hl1).trans HA1.out))
  have hB3 : Below w.heap.size w w3 := (hB1.alloc (by omega) _).trans (hb3.mono (by simp; omega))
  have hl3 : w1.heap.size < w3.heap.size := by have := hb3.size; simp at this; omega
  clear c0 c1 c2 c3 HA1 hB1 hb3
  have hbase : (w1.alloc (.cells (row4 fun _ => 0) 24 (0, 0))).heap.size = w1.heap.size + 1 := by simp
  have ho6' := ownsRow_base ho6 (Nat.le_of_eq hbase.symm)
  clear ho6 hbase
  generalize w1.heap.size = p at *
  by_cases hpos : 0 < N
  · obtain ⟨hl, ⟨_, h0⟩ | ⟨g, cap, cur, hv, hg, hh, h1, h2, h3, h4⟩⟩ := ho6'
    · omega
    have hcur : Hid (∀ j, j < N * 2 → cur[j]? = some (.int .i64 (l.getD j 0))) := by
      refine Lib.hid fun j hj => ?_
      have e : (cur.toList.take (N * 2))[j]? = cur[j]? := by rw [List.getElem?_take, if_pos hj]; simp
      have hlj : j < l.length := by simpa [hj] using (show j < (l.map (Value.int .i64)).length by rw [hl]; exact hj)
      rw [← e, h4, List.getElem?_map, List.getElem?_eq_getElem hlj, List.getD_eq_getElem?_getD, List.getElem?_eq_getElem hlj]; rfl
    have hgs : g < w3.heap.size := by
      rcases Nat.lt_or_ge g w3.heap.size with h | h
      · exact h
      · rw [Array.getElem?_eq_none h] at hh; cases hh
    rw [hv]
    have HH := Lib.hid hh
    clear hl hv h1 h2 h3 h4 hh
    go_wp2
    go_loopw [5, 7] (fun s c wr => ∃ i : Nat, i ≤ N ∧ c = .int .i64 i ∧ s = .int .i64 (sumN l i) ∧ wr.heap[w.heap.size]? = some (.cells (row4 f) 24 (0, 0)) ∧ wr.heap[p]? = some (.cells (row4 (unionS l i)) 24 (0, 0)) ∧ wr.heap[g]? = some (.cells cur 39 (0, 0)) ∧ g < wr.heap.size ∧ Below w.heap.size w wr) (fun _ c _ => N - (intOf c).toNat)
    case atStart => exact ⟨0, by omega, rfl, rfl, HA3.out, HU3.out, HH.out, hgs, hB3⟩
    case round =>
      obtain ⟨i, hiN, rfl, rfl, ha, hu, hc, hgr, hb⟩ := hrel
      by_cases hlt : i < N
      · obtain ⟨b0, b1, b2⟩ := hok.out i hlt
        obtain ⟨s0, s1⟩ := hsum.out i hiN
        have r0 : wr.cell? ⟨g, i * 2, none⟩ = some (.int .i64 (lo l i)) := (cell_of_row _ _ _ _ _ _ hc).trans (hcur.out _ (by omega))
        have r1 : wr.cell? ⟨g, i * 2 + 1, none⟩ = some (.int .i64 (hi l i)) := (cell_of_row _ _ _ _ _ _ hc).trans (hcur.out _ (by omega))
        have n1 : decide (hi l i < lo l i) = false := by simp; omega
        have iN : (i : Int) < (N : Int) := by omega
        have HAr := Lib.hid ha
        have HUr := Lib.hid hu
        have HCr := Lib.hid hc
        have u0 := cell4 hu 0 (by omega)
        have u1 := cell4 hu 1 (by omega)
        have u2 := cell4 hu 2 (by omega)
        have u3 := cell4 hu 3 (by omega)
        clear ha hu hc
        by_cases hi0 : i = 0
        · have n2 : decide (0 < i) = false := by simp; omega
          have HI0 := Lib.hid hi0
          clear hi0
          go_wp2_with fail
          go_quiet (fail)
          go_wp2_with fail
          clear n2
          have HA4 : Hid ((wr.drewN nq).heap[w.heap.size]? = some (.cells (row4 f) 24 (0, 0))) := Lib.hid HAr.out
          have HU4 : Hid ((wr.drewN nq).heap[p]? = some (.cells (row4 (unionS l i)) 24 (0, 0))) := Lib.hid HUr.out
          have HC4 : Hid ((wr.drewN nq).heap[g]? = some (.cells cur 39 (0, 0))) := Lib.hid HCr.out
          have hb4 : Below w.heap.size w (wr.drewN nq) := below_drewN hb _
          have hg4 : g < (wr.drewN nq).heap.size := hgr
          clear u0 u1 u2 u3 r0 r1 n1 HAr HUr HCr hb hgr
          generalize wr.drewN nq = w4 at *
          have u0 := cell4 HU4.out 0 (by omega)
          have u1 := cell4 HU4.out 1 (by omega)
          have u2 := cell4 HU4.out 2 (by omega)
          have u3 := cell4 HU4.out 3 (by omega)
          have r0 : w4.cell? ⟨g, i * 2, none⟩ = some (.int .i64 (lo l i)) := (cell_of_row _ _ _ _ _ _ HC4.out).trans (hcur.out _ (by omega))
          have r1 : w4.cell? ⟨g, i * 2 + 1, none⟩ = some (.int .i64 (hi l i)) := (cell_of_row _ _ _ _ _ _ HC4.out).trans (hcur.out _ (by omega))
          go_region_with (first
            | (go_at_call 11; refine (of_any (lo l i) (hi l i) _).mono ?_; rintro e wy ⟨rfl, hby⟩; have hup := (hby.block p (by simp; omega)).trans HU4.out; have v0 := cell4 hup 0 (by omega); have v1 := cell4 hup 1 (by omega); have v2 := cell4 hup 2 (by omega); have v3 := cell4 hup 3 (by omega); have HUP := Lib.hid hup; clear hup)
            | (go_at_call 13; refine (or_any (unionS l i) (byK (ofK (lo l i) (hi l i))) _).mono ?_; rintro e wz ⟨rfl, hbz⟩; have hlz := hby.size; have huz := (hbz.block p (by simp at hlz; omega)).trans HUP.out; have z0 := cell4 huz 0 (by omega); have z1 := cell4 huz 1 (by omega); have z2 := cell4 huz 2 (by omega); have z3 := cell4 huz 3 (by omega); have f0 := frozen_of_row _ _ 0 _ _ huz; have f1 := frozen_of_row _ _ 1 _ _ huz; have f2 := frozen_of_row _ _ 2 _ _ huz; have f3 := frozen_of_row _ _ 3 _ _ huz; have HUZ := Lib.hid huz; clear huz))
          all_goals
            have hlz2 : g < wz.heap.size := by have h1 := hby.size; have h2 := hbz.size; simp at h1; omega
            have hly : g < wy.heap.size := by have h1 := hby.size; simp at h1; omega
            have HA5 : Hid (((((wz.setCell ⟨p, 0, none⟩ (.int .u64 (orS (unionS l i) (byK (ofK (lo l i) (hi l i))) 0))).setCell ⟨p, 1, none⟩ (.int .u64 (orS (unionS l i) (byK (ofK (lo l i) (hi l i))) 1))).setCell ⟨p, 2, none⟩ (.int .u64 (orS (unionS l i) (byK (ofK (lo l i) (hi l i))) 2))).setCell ⟨p, 3, none⟩ (.int .u64 (orS (unionS l i) (byK (ofK (lo l i) (hi l i))) 3))).heap[w.heap.size]? = some (.cells (row4 f) 24 (0, 0))) := Lib.hid ((put4_other wz p w.heap.size (orS (unionS l i) (byK (ofK (lo l i) (hi l i)))) (by omega)).trans ((hbz.block _ (by omega)).trans ((hby.block _ (by simp; omega)).trans HA4.out)))
            have HC5 : Hid (((((wz.setCell ⟨p, 0, none⟩ (.int .u64 (orS (unionS l i) (byK (ofK (lo l i) (hi l i))) 0))).setCell ⟨p, 1, none⟩ (.int .u64 (orS (unionS l i) (byK (ofK (lo l i) (hi l i))) 1))).setCell ⟨p, 2, none⟩ (.int .u64 (orS (unionS l i) (byK (ofK (lo l i) (hi l i))) 2))).setCell ⟨p, 3, none⟩ (.int .u64 (orS (unionS l i) (byK (ofK (lo l i) (hi l i))) 3))).heap[g]? = some (.cells cur 39 (0, 0))) := Lib.hid ((put4_other wz p g (orS (unionS l i) (byK (ofK (lo l i) (hi l i)))) (by omega)).trans ((hbz.block _ (by omega)).trans ((hby.block _ (by simp; omega)).trans HC4.out)))
            have HU5 : Hid (((((wz.setCell ⟨p, 0, none⟩ (.int .u64 (orS (unionS l i) (byK (ofK (lo l i) (hi l i))) 0))).setCell ⟨p, 1, none⟩ (.int .u64 (orS (unionS l i) (byK (ofK (lo l i) (hi l i))) 1))).setCell ⟨p, 2, none⟩ (.int .u64 (orS (unionS l i) (byK (ofK (lo l i) (hi l i))) 2))).setCell ⟨p, 3, none⟩ (.int .u64 (orS (unionS l i) (byK (ofK (lo l i) (hi l i))) 3))).heap[p]? = some (.cells (row4 (orS (unionS l i) (byK (ofK (lo l i) (hi l i))))) 24 (0, 0))) := Lib.hid (stored4 (orS (unionS l i) (byK (ofK (lo l i) (hi l i)))) HUZ.out)
            have hbz' : Below w.heap.size w wz := (hb4.trans (Below.trans (Below.refl _ _).drew (hby.mono (by simp; omega)))).trans (hbz.mono (by omega))
            have hb5 : Below w.heap.size w ((((wz.setCell ⟨p, 0, none⟩ (.int .u64 (orS (unionS l i) (byK (ofK (lo l i) (hi l i))) 0))).setCell ⟨p, 1, none⟩ (.int .u64 (orS (unionS l i) (byK (ofK (lo l i) (hi l i))) 1))).setCell ⟨p, 2, none⟩ (.int .u64 (orS (unionS l i) (byK (ofK (lo l i) (hi l i))) 2))).setCell ⟨p, 3, none⟩ (.int .u64 (orS (unionS l i) (byK (ofK (lo l i) (hi l i))) 3))) := put4_below (g := p) (orS (unionS l i) (byK (ofK (lo l i) (hi l i)))) hbz' (by omega)
            have hg5 : g < ((((wz.setCell ⟨p, 0, none⟩ (.int .u64 (orS (unionS l i) (byK (ofK (lo l i) (hi l i))) 0))).setCell ⟨p, 1, none⟩ (.int .u64 (orS (unionS l i) (byK (ofK (lo l i) (hi l i))) 1))).setCell ⟨p, 2, none⟩ (.int .u64 (orS (unionS l i) (byK (ofK (lo l i) (hi l i))) 2))).setCell ⟨p, 3, none⟩ (.int .u64 (orS (unionS l i) (byK (ofK (lo l i) (hi l i))) 3))).heap.size := by rw [put4_size]; exact hlz2
            clear u0 u1 u2 u3 r0 r1 v0 v1 v2 v3 z0 z1 z2 z3 f0 f1 f2 f3 HUZ HUP hbz hby hbz' HA4 HU4 HC4 hb4 hg4 hlz2 hly
            generalize ((((wz.setCell ⟨p, 0, none⟩ (.int .u64 (orS (unionS l i) (byK (ofK (lo l i) (hi l i))) 0))).setCell ⟨p, 1, none⟩ (.int .u64 (orS (unionS l i) (byK (ofK (lo l i) (hi l i))) 1))).setCell ⟨p, 2, none⟩ (.int .u64 (orS (unionS l i) (byK (ofK (lo l i) (hi l i))) 2))).setCell ⟨p, 3, none⟩ (.int .u64 (orS (unionS l i) (byK (ofK (lo l i) (hi l i))) 3))) = w5 at *
            have r0 : w5.cell? ⟨g, i * 2, none⟩ = some (.int .i64 (lo l i)) := (cell_of_row _ _ _ _ _ _ HC5.out).trans (hcur.out _ (by omega))
            have r1 : w5.cell? ⟨g, i * 2 + 1, none⟩ = some (.int .i64 (hi l i)) := (cell_of_row _ _ _ _ _ _ HC5.out).trans (hcur.out _ (by omega))
            have e1 : IntKind.i64.wrap (sumN l i + hi l i) = sumN l i + hi l i := IntWalk.i64_in _ (by omega)
            have e2 : IntKind.i64.wrap (sumN l i + hi l i - lo l i) = sumN l i + hi l i - lo l i := IntWalk.i64_in _ (by omega)
            have e3 : IntKind.i64.wrap (sumN l i + hi l i - lo l i + 1) = sumN l i + hi l i - lo l i + 1 := IntWalk.i64_in _ (by omega)
            go_wp2_with fail
            go_quiet (fail)
            clear e1 e2 e3
            go_wp2
            go_roundw
            case rel => exact ⟨i + 1, by omega, by go_num, rfl, HA5.out, HU5.out, HC5.out, hg5, below_drewN hb5 _⟩
            case measure => simp [intOf]; omega
        · obtain ⟨m, rfl⟩ : ∃ m, i = m + 1 := ⟨i - 1, by omega⟩
          have r2 : wr.cell? ⟨g, m * 2 + 1, none⟩ = some (.int .i64 (hi l m)) := (cell_of_row _ _ _ _ _ _ HCr.out).trans (hcur.out _ (by omega))
          obtain ⟨m0, m1, m2⟩ := hok.out m (by omega)
          have n2 : decide (lo l (m + 1) ≤ hi l m + 1) = false := by have := hfar.out m (by omega); simp; omega
          go_wp2_with fail
          go_quiet (fail)
          go_wp2_with fail
          clear n2 r2 m0 m1 m2
          generalize hmi : m + 1 = i at *
          have HMI := Lib.hid hmi
          clear hmi
          have HA4 : Hid ((wr.drewN nq).heap[w.heap.size]? = some (.cells (row4 f) 24 (0, 0))) := Lib.hid HAr.out
          have HU4 : Hid ((wr.drewN nq).heap[p]? = some (.cells (row4 (unionS l i)) 24 (0, 0))) := Lib.hid HUr.out
          have HC4 : Hid ((wr.drewN nq).heap[g]? = some (.cells cur 39 (0, 0))) := Lib.hid HCr.out
          have hb4 : Below w.heap.size w (wr.drewN nq) := below_drewN hb _
          have hg4 : g < (wr.drewN nq).heap.size := hgr
          clear u0 u1 u2 u3 r0 r1 n1 HAr HUr HCr hb hgr
          generalize wr.drewN nq = w4 at *
          have u0 := cell4 HU4.out 0 (by omega)
          have u1 := cell4 HU4.out 1 (by omega)
          have u2 := cell4 HU4.out 2 (by omega)
          have u3 := cell4 HU4.out 3 (by omega)
          have r0 : w4.cell? ⟨g, i * 2, none⟩ = some (.int .i64 (lo l i)) := (cell_of_row _ _ _ _ _ _ HC4.out).trans (hcur.out _ (by omega))
          have r1 : w4.cell? ⟨g, i * 2 + 1, none⟩ = some (.int .i64 (hi l i)) := (cell_of_row _ _ _ _ _ _ HC4.out).trans (hcur.out _ (by omega))
          go_region_with (first
            | (go_at_call 11; refine (of_any (lo l i) (hi l i) _).mono ?_; rintro e wy ⟨rfl, hby⟩; have hup := (hby.block p (by simp; omega)).trans HU4.out; have v0 := cell4 hup 0 (by omega); have v1 := cell4 hup 1 (by omega); have v2 := cell4 hup 2 (by omega); have v3 := cell4 hup 3 (by omega); have HUP := Lib.hid hup; clear hup)
            | (go_at_call 13; refine (or_any (unionS l i) (byK (ofK (lo l i) (hi l i))) _).mono ?_; rintro e wz ⟨rfl, hbz⟩; have hlz := hby.size; have huz := (hbz.block p (by simp at hlz; omega)).trans HUP.out; have z0 := cell4 huz 0 (by omega); have z1 := cell4 huz 1 (by omega); have z2 := cell4 huz 2 (by omega); have z3 := cell4 huz 3 (by omega); have f0 := frozen_of_row _ _ 0 _ _ huz; have f1 := frozen_of_row _ _ 1 _ _ huz; have f2 := frozen_of_row _ _ 2 _ _ huz; have f3 := frozen_of_row _ _ 3 _ _ huz; have HUZ := Lib.hid huz; clear huz))
          all_goals
            have hlz2 : g < wz.heap.size := by have h1 := hby.size; have h2 := hbz.size; simp at h1; omega
            have hly : g < wy.heap.size := by have h1 := hby.size; simp at h1; omega
            have HA5 : Hid (((((wz.setCell ⟨p, 0, none⟩ (.int .u64 (orS (unionS l i) (byK (ofK (lo l i) (hi l i))) 0))).setCell ⟨p, 1, none⟩ (.int .u64 (orS (unionS l i) (byK (ofK (lo l i) (hi l i))) 1))).setCell ⟨p, 2, none⟩ (.int .u64 (orS (unionS l i) (byK (ofK (lo l i) (hi l i))) 2))).setCell ⟨p, 3, none⟩ (.int .u64 (orS (unionS l i) (byK (ofK (lo l i) (hi l i))) 3))).heap[w.heap.size]? = some (.cells (row4 f) 24 (0, 0))) := Lib.hid ((put4_other wz p w.heap.size (orS (unionS l i) (byK (ofK (lo l i) (hi l i)))) (by omega)).trans ((hbz.block _ (by omega)).trans ((hby.block _ (by simp; omega)).trans HA4.out)))
            have HC5 : Hid (((((wz.setCell ⟨p, 0, none⟩ (.int .u64 (orS (unionS l i) (byK (ofK (lo l i) (hi l i))) 0))).setCell ⟨p, 1, none⟩ (.int .u64 (orS (unionS l i) (byK (ofK (lo l i) (hi l i))) 1))).setCell ⟨p, 2, none⟩ (.int .u64 (orS (unionS l i) (byK (ofK (lo l i) (hi l i))) 2))).setCell ⟨p, 3, none⟩ (.int .u64 (orS (unionS l i) (byK (ofK (lo l i) (hi l i))) 3))).heap[g]? = some (.cells cur 39 (0, 0))) := Lib.hid ((put4_other wz p g (orS (unionS l i) (byK (ofK (lo l i) (hi l i)))) (by omega)).trans ((hbz.block _ (by omega)).trans ((hby.block _ (by simp; omega)).trans HC4.out)))
            have HU5 : Hid (((((wz.setCell ⟨p, 0, none⟩ (.int .u64 (orS (unionS l i) (byK (ofK (lo l i) (hi l i))) 0))).setCell ⟨p, 1, none⟩ (.int .u64 (orS (unionS l i) (byK (ofK (lo l i) (hi l i))) 1))).setCell ⟨p, 2, none⟩ (.int .u64 (orS (unionS l i) (byK (ofK (lo l i) (hi l i))) 2))).setCell ⟨p, 3, none⟩ (.int .u64 (orS (unionS l i) (byK (ofK (lo l i) (hi l i))) 3))).heap[p]? = some (.cells (row4 (orS (unionS l i) (byK (ofK (lo l i) (hi l i))))) 24 (0, 0))) := Lib.hid (stored4 (orS (unionS l i) (byK (ofK (lo l i) (hi l i)))) HUZ.out)
            have hbz' : Below w.heap.size w wz := (hb4.trans (Below.trans (Below.refl _ _).drew (hby.mono (by simp; omega)))).trans (hbz.mono (by omega))
            have hb5 : Below w.heap.size w ((((wz.setCell ⟨p, 0, none⟩ (.int .u64 (orS (unionS l i) (byK (ofK (lo l i) (hi l i))) 0))).setCell ⟨p, 1, none⟩ (.int .u64 (orS (unionS l i) (byK (ofK (lo l i) (hi l i))) 1))).setCell ⟨p, 2, none⟩ (.int .u64 (orS (unionS l i) (byK (ofK (lo l i) (hi l i))) 2))).setCell ⟨p, 3, none⟩ (.int .u64 (orS (unionS l i) (byK (ofK (lo l i) (hi l i))) 3))) := put4_below (g := p) (orS (unionS l i) (byK (ofK (lo l i) (hi l i)))) hbz' (by omega)
            have hg5 : g < ((((wz.setCell ⟨p, 0, none⟩ (.int .u64 (orS (unionS l i) (byK (ofK (lo l i) (hi l i))) 0))).setCell ⟨p, 1, none⟩ (.int .u64 (orS (unionS l i) (byK (ofK (lo l i) (hi l i))) 1))).setCell ⟨p, 2, none⟩ (.int .u64 (orS (unionS l i) (byK (ofK (lo l i) (hi l i))) 2))).setCell ⟨p, 3, none⟩ (.int .u64 (orS (unionS l i) (byK (ofK (lo l i) (hi l i))) 3))).heap.size := by rw [put4_size]; exact hlz2
            clear u0 u1 u2 u3 r0 r1 v0 v1 v2 v3 z0 z1 z2 z3 f0 f1 f2 f3 HUZ HUP hbz hby hbz' HA4 HU4 HC4 hb4 hg4 hlz2 hly
            generalize ((((wz.setCell ⟨p, 0, none⟩ (.int .u64 (orS (unionS l i) (byK (ofK (lo l i) (hi l i))) 0))).setCell ⟨p, 1, none⟩ (.int .u64 (orS (unionS l i) (byK (ofK (lo l i) (hi l i))) 1))).setCell ⟨p, 2, none⟩ (.int .u64 (orS (unionS l i) (byK (ofK (lo l i) (hi l i))) 2))).setCell ⟨p, 3, none⟩ (.int .u64 (orS (unionS l i) (byK (ofK (lo l i) (hi l i))) 3))) = w5 at *
            have r0 : w5.cell? ⟨g, i * 2, none⟩ = some (.int .i64 (lo l i)) := (cell_of_row _ _ _ _ _ _ HC5.out).trans (hcur.out _ (by omega))
            have r1 : w5.cell? ⟨g, i * 2 + 1, none⟩ = some (.int .i64 (hi l i)) := (cell_of_row _ _ _ _ _ _ HC5.out).trans (hcur.out _ (by omega))
            have e1 : IntKind.i64.wrap (sumN l i + hi l i) = sumN l i + hi l i := IntWalk.i64_in _ (by omega)
            have e2 : IntKind.i64.wrap (sumN l i + hi l i - lo l i) = sumN l i + hi l i - lo l i := IntWalk.i64_in _ (by omega)
            have e3 : IntKind.i64.wrap (sumN l i + hi l i - lo l i + 1) = sumN l i + hi l i - lo l i + 1 := IntWalk.i64_in _ (by omega)
            go_wp2_with fail
            go_quiet (fail)
            clear e1 e2 e3
            go_wp2
            go_roundw
            case rel => exact ⟨i + 1, by omega, by go_num, rfl, HA5.out, HU5.out, HC5.out, hg5, below_drewN hb5 _⟩
            case measure => have hmi := HMI.out; simp [intOf]; omega
      · obtain rfl : N = i := by omega
        have x0 := cell4 hu 0 (by omega)
        have x1 := cell4 hu 1 (by omega)
        have x2 := cell4 hu 2 (by omega)
        have x3 := cell4 hu 3 (by omega)
        have y0 := cell4 ha 0 (by omega)
        have y1 := cell4 ha 1 (by omega)
        have y2 := cell4 ha 2 (by omega)
        have y3 := cell4 ha 3 (by omega)
        have hg24 := guard24
        clear hu ha
        go_wp2_with fail
        refine (k22.out _).mono ?_
        rintro e w9 ⟨v9, rfl, ho9, hb9⟩
        obtain ⟨a9, c9, hv9⟩ := row_slice ho9
        have hB9 : Below w.heap.size w w9 := hb.trans (hb9.mono hb.size)
        rw [hv9]
        clear ho9 hv9 hb9 x0 x1 x2 x3 y0 y1 y2 y3
        go_wp2
        go_ret
        exact ⟨rfl, hB9⟩
  · obtain rfl : N = 0 := by omega
    obtain ⟨a6, c6, hv6⟩ := row_slice ho6'
    rw [hv6]
    clear ho6' hv6
    have hu : w3.heap[p]? = some (.cells (row4 (unionS l 0)) 24 (0, 0)) := HU3.out
    have ha := HA3.out
    have hb := hB3
    have q2' : ((0 : Int) == (ll.length : Int)) = true := q2
    clear hB3 q2
    go_wp2
    refine wp_loop_rounds 1 ?_
    rw [rounds_succ]
    have x0 := cell4 hu 0 (by omega)
    have x1 := cell4 hu 1 (by omega)
    have x2 := cell4 hu 2 (by omega)
    have x3 := cell4 hu 3 (by omega)
    have y0 := cell4 ha 0 (by omega)
    have y1 := cell4 ha 1 (by omega)
    have y2 := cell4 ha 2 (by omega)
    have y3 := cell4 ha 3 (by omega)
    have hg24 := guard24
    clear hu ha
    go_wp2_with fail
    refine (k22.out _).mono ?_
    rintro e w9 ⟨v9, rfl, ho9, hb9⟩
    obtain ⟨a9, c9, hv9⟩ := row_slice ho9
    have hB9 : Below w.heap.size w w9 := hb.trans (hb9.mono hb.size)
    rw [hv9]
    clear ho9 hv9 hb9 x0 x1 x2 x3 y0 y1 y2 y3
    go_wp2
    go_ret
    exact ⟨rfl, hB9⟩
theorem back_any (f : Nat → Int) (hf : Wf f) (w : World) :
    Calls Try.prog 6 #[SV f] w fun e w' => e = .returned (.bool true) ∧ Below w.heap.size w w' :=
  back_core f (runsS f) (listS f) (runsN f) w (runsN_le f) (Lib.hid fun w => runs_any f w) (Lib.hid fun w => list_any f w) (Lib.hid (rn_set f).ok) (Lib.hid (rn_set f).far) (Lib.hid (sum_bd f))
    (fun wx => (eql24 _ _ wx).trans (by rw [union_eq hf])) (beq_iff_eq.2 (sum_eq f))
end Go.Proofs.Ythloafbgfjhicaa
