/- Contracts of the document's own answers List and Runs of layer 1. No conditions. -/
import Derived.Test.YthloafbgfjhicaaR
namespace Go.Proofs.Ythloafbgfjhicaa
open Go.RowKit
set_option maxRecDepth 100000 in
set_option maxHeartbeats 400000 in
theorem reflist_any (f : Nat → Int) (w : World) : Calls Try.prog 23 #[SV f] w (GivesInts w (listS f)) := by
  obtain ⟨i0, hi, hz0, hz1, hz2⟩ := info_parts info3
  go_enter Try.func23, Try.ntmps23
  go_wp2
  go_loopw [3, 4] (fun v i wr => ∃ j : Nat, j ≤ 256 ∧ i = .int .i64 j ∧ wr.ownsRow (w.heap.size + 1) 3 1 v (listI (hasI f) j).length ((listI (hasI f) j).map (Value.int .i64)) ∧ wr.heap[w.heap.size]? = some (.cells (row4 f) 24 (0, 0)) ∧ w.heap.size + 1 ≤ wr.heap.size ∧ Below w.heap.size w wr) (fun _ i _ => 256 - (intOf i).toNat)
  case atStart => exact ⟨0, by omega, rfl, World.ownsRow_nil _ _ _ _, heap_alloc_new _ _, by simp, (Below.refl _ _).alloc (Nat.le_refl _) _⟩
  case round =>
    obtain ⟨j, hj, rfl, hown, hc, hs, hb⟩ := hrel
    by_cases hlt : j < 256
    · have HC := Lib.hid hc
      have c0 := cell4 hc 0 (by omega)
      have c1 := cell4 hc 1 (by omega)
      have c2 := cell4 hc 2 (by omega)
      have c3 := cell4 hc 3 (by omega)
      have hlen := listI_le (hasI f) j
      clear hc
      go_wp2_with fail
      refine (refhas_any f (j : Int) _).mono ?_
      rintro e w1 ⟨rfl, hb1⟩
      have hown1 := ownsRow_below hown hb1
      have hB1 : Below w.heap.size w w1 := hb.trans (hb1.mono hb.size)
      have HC1 := Lib.hid ((hb1.block _ (by omega)).trans HC.out)
      have hs1 : w.heap.size + 1 ≤ w1.heap.size := Nat.le_trans hs hb1.size
      clear c0 c1 c2 c3 hown hb hs hb1 HC
      cases hK : hasI f (j : Int)
      · have HK := Lib.hid (listI_no hK); clear hK
        go_wp2
        go_roundw
        case rel => exact ⟨j + 1, by omega, by go_num, by rw [HK.out]; exact hown1, HC1.out, hs1, hB1⟩
        case measure => simp [intOf]; omega
      · have HK := Lib.hid (listI_yes hK); clear hK
        go_wp2_with (first | (at_builtin; refine wpList_append_own _ rfl _ _ 32 rfl (w.heap.size + 1) 3 i0 (.int .i64 0) 1 8 Try.underlying32 hi hz0 hz1 hz2 rfl (by decide) _ _ _ rfl (hown1.alloc _) ⟨w1.heap.size, 0, none⟩ 1 1 [.int .i64 (j : Int)] rfl rfl ?c1 ?c2 ?c3 ?c4 ?c5 ?_))
        case c1 => exact cell_one_new _ _ _
        case c2 => intro u hu; simp at hu; subst hu; rfl
        case c3 => unfold maxLen; omega
        case c4 => omega
        case c5 => simp; omega
        · intro v' w2 hown2 hgrow _
          have hB2 : Below w.heap.size w w2 := (hB1.alloc (by omega) _).grown hgrow (by simp; omega) (fun k hk => by have := own_ge hown1 k hk; omega)
          have HC2 := Lib.hid ((hgrow.block w.heap.size (by simp; omega) (fun e => by have := own_ge hown1 _ e.symm; omega)).trans ((Below.heap_alloc _ _ _ (by omega)).trans HC1.out))
          have hs2 : w.heap.size + 1 ≤ w2.heap.size := by have := hgrow.size; simp at this; omega
          clear hgrow hown1 hB1 HC1 hs1
          go_wp2
          go_roundw
          case rel => exact ⟨j + 1, by omega, by go_num, by rw [HK.out]; simpa using hown2, HC2.out, hs2, hB2⟩
          case measure => simp [intOf]; omega
    · obtain rfl : j = 256 := by omega
      go_wp2
      go_ret
      exact ⟨_, rfl, ownsRow_base hown (by omega), hb⟩
set_option maxRecDepth 100000 in
set_option maxHeartbeats 400000 in
theorem refruns_any (f : Nat → Int) (w : World) : Calls Try.prog 26 #[SV f] w (GivesRuns w (runsN f) (runsS f)) := by
  obtain ⟨i0, hi, hz0, hz1, hz2⟩ := info_parts info39
  have HM : Hid (hasI f (-1) = false) := Lib.hid (hasI_out (by omega))
  go_enter Try.func26, Try.ntmps26
  go_wp2
  go_loopw [3, 4] (fun v i wr => ∃ j : Nat, j ≤ 256 ∧ i = .int .i64 j ∧ wr.ownsRow (w.heap.size + 1) 39 2 v (cntR (hasI f) j) ((flatR (hasI f) j).map (Value.int .i64)) ∧ wr.heap[w.heap.size]? = some (.cells (row4 f) 24 (0, 0)) ∧ w.heap.size + 1 ≤ wr.heap.size ∧ Below w.heap.size w wr) (fun _ i _ => 256 - (intOf i).toNat)
  case atStart => exact ⟨0, by omega, rfl, World.ownsRow_nil _ _ _ _, heap_alloc_new _ _, by simp, (Below.refl _ _).alloc (Nat.le_refl _) _⟩
  case round =>
    obtain ⟨j, hj, rfl, hown, hc, hs, hb⟩ := hrel
    by_cases hlt : j < 256
    · have HC := Lib.hid hc
      have c0 := cell4 hc 0 (by omega)
      have c1 := cell4 hc 1 (by omega)
      have c2 := cell4 hc 2 (by omega)
      have c3 := cell4 hc 3 (by omega)
      have hlen := cntR_le (hasI f) j
      clear hc
      go_wp2_with fail
      refine (refhas_any f (j : Int) _).mono ?_
      rintro e w1 ⟨rfl, hb1⟩
      have hown1 := ownsRow_below hown hb1
      have hB1 : Below w.heap.size w w1 := hb.trans (hb1.mono hb.size)
      have HC1 := Lib.hid ((hb1.block _ (by omega)).trans HC.out)
      have hs1 : w.heap.size + 1 ≤ w1.heap.size := Nat.le_trans hs hb1.size
      clear c0 c1 c2 c3 hown hb hs hb1 HC
      cases hK : hasI f (j : Int)
      · have HK := Lib.hid (flatR_no hK); clear hK
        go_wp2
        go_roundw
        case rel => exact ⟨j + 1, by omega, by go_num, by rw [HK.out.1, HK.out.2]; exact hown1, HC1.out, hs1, hB1⟩
        case measure => simp [intOf]; omega
      · have HK0 := Lib.hid hK; clear hK
        have c0 := cell4 HC1.out 0 (by omega)
        have c1 := cell4 HC1.out 1 (by omega)
        have c2 := cell4 HC1.out 2 (by omega)
        have c3 := cell4 HC1.out 3 (by omega)
        by_cases hj0 : j = 0
        · have hjn : (j : Int) ≤ 0 := by omega
          have HJ0 := Lib.hid hj0
          clear c0 c1 c2 c3 hj0
          have HK := Lib.hid (flatR_new HK0.out (by rw [HJ0.out]; exact HM.out))
          go_wp2_with (first | (at_builtin; refine wpList_append_own _ rfl _ _ 35 rfl (w.heap.size + 1) 39 i0 (.agg #[.int .i64 0, .int .i64 0]) 2 16 Try.underlying35 hi hz0 hz1 hz2 rfl (by decide) _ _ _ rfl (hown1.alloc _) ⟨w1.heap.size, 0, none⟩ 1 1 [.int .i64 (j : Int), .int .i64 (j : Int)] rfl rfl ?z1 ?z2 ?z3 ?z4 ?z5 ?_))
          case z1 => exact World.news_of_block (cs := #[.int .i64 (j : Int), .int .i64 (j : Int)]) (t := 39) (fr := (0, 0)) (heap_alloc_new _ _)
          case z2 => intro u hu; simp at hu; subst hu; rfl
          case z3 => unfold maxLen; omega
          case z4 => omega
          case z5 => simp; omega
          · intro v' w3 hown3 hgrow _
            have hB3 : Below w.heap.size w w3 := (hB1.alloc (by omega) _).grown hgrow (by simp; omega) (fun k hk => by have := own_ge hown1 k hk; omega)
            have HC3 := Lib.hid ((hgrow.block w.heap.size (by simp; omega) (fun e => by have := own_ge hown1 _ e.symm; omega)).trans ((Below.heap_alloc _ _ _ (by omega)).trans HC1.out))
            have hs3 : w.heap.size + 1 ≤ w3.heap.size := by have := hgrow.size; simp at this; omega
            clear hgrow hown1 hB1 HC1 hs1
            go_wp2
            go_roundw
            case rel => exact ⟨j + 1, by omega, by go_num, by rw [HK.out.1, HK.out.2]; simpa using hown3, HC3.out, hs3, hB3⟩
            case measure => simp [intOf]; omega
        · have hjp : (0 : Int) < (j : Int) := by omega
          go_wp2_with fail
          refine (refhas_any f ((j : Int) - 1) _).mono ?_
          rintro e w2 ⟨rfl, hb1⟩
          have hown2 := ownsRow_below hown1 hb1
          have hB2 : Below w.heap.size w w2 := hB1.trans (hb1.mono hB1.size)
          have HC2 := Lib.hid ((hb1.block _ (by omega)).trans HC1.out)
          have hs2 : w.heap.size + 1 ≤ w2.heap.size := Nat.le_trans hs1 hb1.size
          clear c0 c1 c2 c3 hown1 hB1 hs1 hb1 HC1
          cases hK' : hasI f ((j : Int) - 1)
          · have HK := Lib.hid (flatR_new HK0.out hK'); clear hK'
            go_wp2_with (first | (at_builtin; refine wpList_append_own _ rfl _ _ 35 rfl (w.heap.size + 1) 39 i0 (.agg #[.int .i64 0, .int .i64 0]) 2 16 Try.underlying35 hi hz0 hz1 hz2 rfl (by decide) _ _ _ rfl (hown2.alloc _) ⟨w2.heap.size, 0, none⟩ 1 1 [.int .i64 (j : Int), .int .i64 (j : Int)] rfl rfl ?c1 ?c2 ?c3 ?c4 ?c5 ?_))
            case c1 => exact World.news_of_block (cs := #[.int .i64 (j : Int), .int .i64 (j : Int)]) (t := 39) (fr := (0, 0)) (heap_alloc_new _ _)
            case c2 => intro u hu; simp at hu; subst hu; rfl
            case c3 => unfold maxLen; omega
            case c4 => omega
            case c5 => simp; omega
            · intro v' w3 hown3 hgrow _
              have hB3 : Below w.heap.size w w3 := (hB2.alloc (by omega) _).grown hgrow (by simp; omega) (fun k hk => by have := own_ge hown2 k hk; omega)
              have HC3 := Lib.hid ((hgrow.block w.heap.size (by simp; omega) (fun e => by have := own_ge hown2 _ e.symm; omega)).trans ((Below.heap_alloc _ _ _ (by omega)).trans HC2.out))
              have hs3 : w.heap.size + 1 ≤ w3.heap.size := by have := hgrow.size; simp at this; omega
              clear hgrow hown2 hB2 HC2 hs2
              go_wp2
              go_roundw
              case rel => exact ⟨j + 1, by omega, by go_num, by rw [HK.out.1, HK.out.2]; simpa using hown3, HC3.out, hs3, hB3⟩
              case measure => simp [intOf]; omega
          · have HK := Lib.hid (flatR_on HK0.out hK')
            have hpos := cntR_pos HM.out hK'
            clear hK'
            obtain ⟨hl, ⟨_, h0⟩ | ⟨g, cap, cur, hv, hg, hh, h1, h2, h3, h4⟩⟩ := hown2
            · omega
            · obtain ⟨m, hm⟩ : ∃ m, cntR (hasI f) j = m + 1 := ⟨cntR (hasI f) j - 1, by omega⟩
              rw [hm] at hl hv h1 h4
              have HM1 := Lib.hid hm
              have HH := Lib.hid hh
              have H3 := Lib.hid h3
              have H4 := Lib.hid h4
              have HL := Lib.hid hl
              have hcx : ∃ y, w2.cell? ⟨g, m * 2 + 1, none⟩ = some y := by
                rw [cell_of_row w2 g _ _ _ _ hh]
                exact ⟨_, Array.getElem?_eq_getElem (by omega)⟩
              obtain ⟨y, hcy⟩ := hcx
              have hfz := frozen_of_row w2 g (m * 2 + 1) _ _ hh
              have hm256 : m < 256 := by omega
              rw [hv]
              clear hm hh h3 h4 hl hv hpos hlen
              go_wp2
              go_roundw
              case rel =>
                refine ⟨j + 1, by omega, by go_num, ?_, ?_, by simp; omega, hB2.setCell (by dsimp only; omega) _⟩
                · rw [HK.out.1, HK.out.2, HM1.out]
                  exact own_last HL.out hg HH.out h1 h2 H3.out H4.out
                · rw [heap_setCell_other _ _ _ _ (by dsimp only; omega)]; exact HC2.out
              case measure => simp [intOf]; omega
    · obtain rfl : j = 256 := by omega
      go_wp2
      go_ret
      exact ⟨_, rfl, ownsRow_base hown (by omega), hb⟩
end Go.Proofs.Ythloafbgfjhicaa
