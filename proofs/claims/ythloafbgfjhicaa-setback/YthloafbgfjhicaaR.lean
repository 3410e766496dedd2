/- Contract of set.Runs over the landed code: the maximal runs of a set's bytes, rising, in a slice of the call's own. No conditions. -/
import Derived.Test.YthloafbgfjhicaaL
import Derived.Deep.AppendLies
namespace Go.Proofs.Ythloafbgfjhicaa
open Go.RowKit
/-- How many runs there are among the numbers below j, and the runs, first and last numbers in a row. -/
def cntR (K : Int → Bool) : Nat → Nat
  | 0 => 0
  | j + 1 => if K (j : Int) then (if K ((j : Int) - 1) then cntR K j else cntR K j + 1) else cntR K j
def flatR (K : Int → Bool) : Nat → List Int
  | 0 => []
  | j + 1 => if K (j : Int) then (if K ((j : Int) - 1) then (flatR K j).dropLast ++ [(j : Int)] else flatR K j ++ [(j : Int), (j : Int)]) else flatR K j
theorem flatR_no {K : Int → Bool} {j : Nat} (h : K (j : Int) = false) : flatR K (j + 1) = flatR K j ∧ cntR K (j + 1) = cntR K j := by
  constructor
  · show (if _ then _ else _) = _; rw [h]; rfl
  · show (if _ then _ else _) = _; rw [h]; rfl
theorem flatR_new {K : Int → Bool} {j : Nat} (h : K (j : Int) = true) (h' : K ((j : Int) - 1) = false) : flatR K (j + 1) = flatR K j ++ [(j : Int), (j : Int)] ∧ cntR K (j + 1) = cntR K j + 1 := by
  constructor
  · show (if _ then _ else _) = _; rw [h, h']; rfl
  · show (if _ then _ else _) = _; rw [h, h']; rfl
theorem flatR_on {K : Int → Bool} {j : Nat} (h : K (j : Int) = true) (h' : K ((j : Int) - 1) = true) : flatR K (j + 1) = (flatR K j).dropLast ++ [(j : Int)] ∧ cntR K (j + 1) = cntR K j := by
  constructor
  · show (if _ then _ else _) = _; rw [h, h']; rfl
  · show (if _ then _ else _) = _; rw [h, h']; rfl
theorem cntR_le (K : Int → Bool) (j : Nat) : cntR K j ≤ j := by
  induction j with
  | zero => exact Nat.le_refl _
  | succ j ih =>
    cases h : K (j : Int)
    · rw [(flatR_no h).2]; omega
    · cases h' : K ((j : Int) - 1)
      · rw [(flatR_new h h').2]; omega
      · rw [(flatR_on h h').2]; omega
theorem cntR_pos {K : Int → Bool} (hK : K (-1) = false) {j : Nat} (h : K ((j : Int) - 1) = true) : 0 < cntR K j := by
  cases j with
  | zero => simp at h; rw [hK] at h; cases h
  | succ j =>
    have h1 : K (j : Int) = true := by have e : (((j + 1 : Nat) : Int) - 1) = (j : Int) := by omega
                                       rw [e] at h; exact h
    clear h
    induction j with
    | zero => rw [(flatR_new h1 (by simpa using hK)).2]; omega
    | succ j ih =>
      cases h' : K (((j + 1 : Nat) : Int) - 1)
      · rw [(flatR_new h1 h').2]; omega
      · rw [(flatR_on h1 h').2]
        exact ih (by have e : (((j + 1 : Nat) : Int) - 1) = (j : Int) := by omega
                     rw [e] at h'; exact h')
/-- What a call that answers a slice of runs of its own comes to. -/
def GivesRuns (w : World) (n : Nat) (l : List Int) (e : Ending) (w' : World) : Prop :=
  ∃ v, e = .returned v ∧ w'.ownsRow w.heap.size 39 2 v n (l.map (Value.int .i64)) ∧ Below w.heap.size w w'
def runsS (f : Nat → Int) : List Int := flatR (hasI f) 256
def runsN (f : Nat → Int) : Nat := cntR (hasI f) 256
theorem info39 : (Try.prog.info? 39).map (fun i => (i.zero, i.size, i.bytes)) = some (some (.agg #[.int .i64 0, .int .i64 0]), 2, 16) := by kernel_rfl
theorem take_set_last (l : List Value) (k : Nat) (x : Value) (h0 : 0 < k) (h : k ≤ l.length) : (l.set (k - 1) x).take k = (l.take k).dropLast ++ [x] := by
  rw [List.take_set]
  obtain ⟨m, rfl⟩ : ∃ m, k = m + 1 := ⟨k - 1, by omega⟩
  simp only [Nat.add_sub_cancel]
  have hl : m < l.length := by omega
  rw [List.take_succ_eq_append_getElem hl, List.dropLast_concat]
  rw [List.set_append_right _ _ (by simp; omega)]
  simp [Nat.min_eq_left (Nat.le_of_lt hl)]
theorem own_last {w : World} {base g cap m j : Nat} {cur : Array Value} {l : List Int} (hl : (l.map (Value.int .i64)).length = (m + 1) * 2) (hg : base ≤ g) (hh : w.heap[g]? = some (.cells cur 39 (0, 0))) (h1 : m + 1 ≤ cap) (h2 : cap ≤ maxLen)
    (h3 : cur.size = cap * 2) (h4 : cur.toList.take ((m + 1) * 2) = l.map (Value.int .i64)) :
    (w.setCell ⟨g, m * 2 + 1, none⟩ (.int .i64 (j : Int))).ownsRow base 39 2 (.slice (some ⟨g, 0, none⟩) (m + 1) cap) (m + 1) ((l.dropLast ++ [(j : Int)]).map (Value.int .i64)) := by
  have hll : l.length = (m + 1) * 2 := by simpa using hl
  refine ⟨by simp; omega, Or.inr ⟨g, cap, _, rfl, hg, heap_setCell_same _ _ _ _ _ _ hh, h1, h2, by simp [h3], ?_⟩⟩
  have e := take_set_last cur.toList ((m + 1) * 2) (.int .i64 (j : Int)) (by omega) (by simp; omega)
  rw [h4] at e
  have e2 : (m + 1) * 2 - 1 = m * 2 + 1 := by omega
  rw [e2] at e
  rw [Array.toList_setIfInBounds, e]
  simp [List.map_dropLast]
set_option maxRecDepth 100000 in
set_option maxHeartbeats 400000 in
theorem runs_any (f : Nat → Int) (w : World) : Calls Try.prog 25 #[SV f] w (GivesRuns w (runsN f) (runsS f)) := by
  obtain ⟨i0, hi, hz0, hz1, hz2⟩ := info_parts info39
  have HM : Hid (hasI f (-1) = false) := Lib.hid (hasI_out (by omega))
  go_enter Try.func25, Try.ntmps25
  go_wp2
  go_loopw [3, 5] (fun v i wr => ∃ j : Nat, j ≤ 256 ∧ i = .int .i64 j ∧ wr.ownsRow (w.heap.size + 1) 39 2 v (cntR (hasI f) j) ((flatR (hasI f) j).map (Value.int .i64)) ∧ wr.heap[w.heap.size]? = some (.cells (row4 f) 24 (0, 0)) ∧ w.heap.size + 1 ≤ wr.heap.size ∧ Below w.heap.size w wr) (fun _ i _ => 256 - (intOf i).toNat)
  case atStart => exact ⟨0, by omega, rfl, World.ownsRow_nil _ _ _ _, heap_alloc_new _ _, by simp, (Below.refl _ _).alloc (Nat.le_refl _) _⟩
  case round =>
    obtain ⟨j, hj, rfl, hown, hc, hs, hb⟩ := hrel
    by_cases hlt : j < 256
    · have HC := Lib.hid hc
      have c0 := cell4 hc 0 (by omega)
      have c1 := cell4 hc 1 (by omega)
      have c2 := cell4 hc 2 (by omega)
      have c3 := cell4 hc 3 (by omega)
      have hlen := cntR_le (hasI f) j
      clear hc
      go_wp2_with fail
      refine (has_any f (j : Int) _).mono ?_
      rintro e w1 ⟨rfl, hb1⟩
      have hown1 := ownsRow_below hown hb1
      have hB1 : Below w.heap.size w w1 := hb.trans (hb1.mono hb.size)
      have HC1 := Lib.hid ((hb1.block _ (by omega)).trans HC.out)
      have hs1 : w.heap.size + 1 ≤ w1.heap.size := Nat.le_trans hs hb1.size
      clear c0 c1 c2 c3 hown hb hs hb1 HC
      cases hK : hasI f (j : Int)
      · have HK := Lib.hid (flatR_no hK); clear hK
        go_wp2
        go_roundw
        case rel => exact ⟨j + 1, by omega, by go_num, by rw [HK.out.1, HK.out.2]; exact hown1, HC1.out, hs1, hB1⟩
        case measure => simp [intOf]; omega
      · have HK0 := Lib.hid hK; clear hK
        have c0 := cell4 HC1.out 0 (by omega)
        have c1 := cell4 HC1.out 1 (by omega)
        have c2 := cell4 HC1.out 2 (by omega)
        have c3 := cell4 HC1.out 3 (by omega)
        go_wp2_with fail
        refine (has_any f ((j : Int) - 1) _).mono ?_
        rintro e w2 ⟨rfl, hb1⟩
        have hown2 := ownsRow_below hown1 hb1
        have hB2 : Below w.heap.size w w2 := hB1.trans (hb1.mono hB1.size)
        have HC2 := Lib.hid ((hb1.block _ (by omega)).trans HC1.out)
        have hs2 : w.heap.size + 1 ≤ w2.heap.size := Nat.le_trans hs1 hb1.size
        clear c0 c1 c2 c3 hown1 hB1 hs1 hb1 HC1
        cases hK' : hasI f ((j : Int) - 1)
        · have HK := Lib.hid (flatR_new HK0.out hK'); clear hK'
          go_wp2_with (first | (at_builtin; refine wpList_append_own _ rfl _ _ 35 rfl (w.heap.size + 1) 39 i0 (.agg #[.int .i64 0, .int .i64 0]) 2 16 Try.underlying35 hi hz0 hz1 hz2 rfl (by decide) _ _ _ rfl (hown2.alloc _) ⟨w2.heap.size, 0, none⟩ 1 1 [.int .i64 (j : Int), .int .i64 (j : Int)] rfl rfl ?c1 ?c2 ?c3 ?c4 ?c5 ?_))
          case c1 => exact World.news_of_block (cs := #[.int .i64 (j : Int), .int .i64 (j : Int)]) (t := 39) (fr := (0, 0)) (heap_alloc_new _ _)
          case c2 => intro u hu; simp at hu; subst hu; rfl
          case c3 => unfold maxLen; omega
          case c4 => omega
          case c5 => simp; omega
          · intro v' w3 hown3 hgrow _
            have hB3 : Below w.heap.size w w3 := (hB2.alloc (by omega) _).grown hgrow (by simp; omega) (fun k hk => by have := own_ge hown2 k hk; omega)
            have HC3 := Lib.hid ((hgrow.block w.heap.size (by simp; omega) (fun e => by have := own_ge hown2 _ e.symm; omega)).trans ((Below.heap_alloc _ _ _ (by omega)).trans HC2.out))
            have hs3 : w.heap.size + 1 ≤ w3.heap.size := by have := hgrow.size; simp at this; omega
            clear hgrow hown2 hB2 HC2 hs2
            go_wp2
            go_roundw
            case rel => exact ⟨j + 1, by omega, by go_num, by rw [HK.out.1, HK.out.2]; simpa using hown3, HC3.out, hs3, hB3⟩
            case measure => simp [intOf]; omega
        · have HK := Lib.hid (flatR_on HK0.out hK')
          have hpos := cntR_pos HM.out hK'
          clear hK'
          obtain ⟨hl, ⟨_, h0⟩ | ⟨g, cap, cur, hv, hg, hh, h1, h2, h3, h4⟩⟩ := hown2
          · omega
          · obtain ⟨m, hm⟩ : ∃ m, cntR (hasI f) j = m + 1 := ⟨cntR (hasI f) j - 1, by omega⟩
            rw [hm] at hl hv h1 h4
            have HM1 := Lib.hid hm
            have HH := Lib.hid hh
            have H3 := Lib.hid h3
            have H4 := Lib.hid h4
            have HL := Lib.hid hl
            have hcx : ∃ y, w2.cell? ⟨g, m * 2 + 1, none⟩ = some y := by
              rw [cell_of_row w2 g _ _ _ _ hh]
              exact ⟨_, Array.getElem?_eq_getElem (by omega)⟩
            obtain ⟨y, hcy⟩ := hcx
            have hfz := frozen_of_row w2 g (m * 2 + 1) _ _ hh
            have hm256 : m < 256 := by omega
            rw [hv]
            clear hm hh h3 h4 hl hv hpos hlen
            go_wp2
            go_roundw
            case rel =>
              refine ⟨j + 1, by omega, by go_num, ?_, ?_, by simp; omega, hB2.setCell (by dsimp only; omega) _⟩
              · rw [HK.out.1, HK.out.2, HM1.out]
                exact own_last HL.out hg HH.out h1 h2 H3.out H4.out
              · rw [heap_setCell_other _ _ _ _ (by dsimp only; omega)]; exact HC2.out
            case measure => simp [intOf]; omega
    · obtain rfl : j = 256 := by omega
      go_wp2
      go_ret
      exact ⟨_, rfl, ownsRow_base hown (by omega), hb⟩
end Go.Proofs.Ythloafbgfjhicaa
