/- Contract of set.List over the landed code: the bytes of a set, rising, in a slice of the call's own. No conditions. -/
import Derived.Test.YthloafbgfjhicaaB
namespace Go.Proofs.Ythloafbgfjhicaa
open Go.RowKit
/-- The numbers below j for which K says yes. -/
def listI (K : Int → Bool) : Nat → List Int
  | 0 => []
  | j + 1 => if K (j : Int) then listI K j ++ [(j : Int)] else listI K j
theorem listI_yes {K : Int → Bool} {j : Nat} (h : K (j : Int) = true) : listI K (j + 1) = listI K j ++ [(j : Int)] := by
  show (if _ then _ else _) = _; rw [h]; rfl
theorem listI_no {K : Int → Bool} {j : Nat} (h : K (j : Int) = false) : listI K (j + 1) = listI K j := by
  show (if _ then _ else _) = _; rw [h]; rfl
theorem listI_le (K : Int → Bool) (j : Nat) : (listI K j).length ≤ j := by
  induction j with
  | zero => exact Nat.le_refl _
  | succ j ih =>
    cases h : K (j : Int)
    · rw [listI_no h]; omega
    · rw [listI_yes h]; simp; omega
theorem ownsRow_below {w w' : World} {base e size n : Nat} {v : Value} {xs : List Value} (h : w.ownsRow base e size v n xs) (hb : Below w.heap.size w w') : w'.ownsRow base e size v n xs := by
  obtain ⟨hl, h | ⟨g, cap, cur, hv, hg, hh, h1, h2, h3, h4⟩⟩ := h
  · exact ⟨hl, Or.inl h⟩
  · refine ⟨hl, Or.inr ⟨g, cap, cur, hv, hg, ?_, h1, h2, h3, h4⟩⟩
    rw [hb.block g (by rcases Nat.lt_or_ge g w.heap.size with h | h; exact h; rw [Array.getElem?_eq_none h] at hh; cases hh)]; exact hh
theorem ownsRow_base {w : World} {base base' e size n : Nat} {v : Value} {xs : List Value} (h : w.ownsRow base e size v n xs) (hb : base' ≤ base) : w.ownsRow base' e size v n xs := by
  obtain ⟨hl, h | ⟨g, cap, cur, hv, hg, hh, h1, h2, h3, h4⟩⟩ := h
  · exact ⟨hl, Or.inl h⟩
  · exact ⟨hl, Or.inr ⟨g, cap, cur, hv, by omega, hh, h1, h2, h3, h4⟩⟩
theorem own_ge {w : World} {base e size n : Nat} {v : Value} {xs : List Value} (h : w.ownsRow base e size v n xs) : ∀ k, v.ownBlock = some k → base ≤ k := by
  intro k hk
  obtain ⟨_, ⟨rfl, _⟩ | ⟨g, cap, cur, rfl, hg, _⟩⟩ := h
  · cases hk
  · cases hk; exact hg
/-- What a call that answers a slice of ints of its own comes to. -/
def GivesInts (w : World) (l : List Int) (e : Ending) (w' : World) : Prop :=
  ∃ v, e = .returned v ∧ w'.ownsRow w.heap.size 3 1 v l.length (l.map (Value.int .i64)) ∧ Below w.heap.size w w'
/-- The bytes of a set, rising. -/
def listS (f : Nat → Int) : List Int := listI (hasI f) 256
theorem info3 : (Try.prog.info? 3).map (fun i => (i.zero, i.size, i.bytes)) = some (some (.int .i64 0), 1, 8) := by kernel_rfl
set_option maxRecDepth 100000 in
set_option maxHeartbeats 400000 in
theorem list_any (f : Nat → Int) (w : World) : Calls Try.prog 22 #[SV f] w (GivesInts w (listS f)) := by
  obtain ⟨i0, hi, hz0, hz1, hz2⟩ := info_parts info3
  go_enter Try.func22, Try.ntmps22
  go_wp2
  go_loopw [3, 5] (fun v i wr => ∃ j : Nat, j ≤ 256 ∧ i = .int .i64 j ∧ wr.ownsRow (w.heap.size + 1) 3 1 v (listI (hasI f) j).length ((listI (hasI f) j).map (Value.int .i64)) ∧ wr.heap[w.heap.size]? = some (.cells (row4 f) 24 (0, 0)) ∧ w.heap.size + 1 ≤ wr.heap.size ∧ Below w.heap.size w wr) (fun _ i _ => 256 - (intOf i).toNat)
  case atStart => exact ⟨0, by omega, rfl, World.ownsRow_nil _ _ _ _, heap_alloc_new _ _, by simp, (Below.refl _ _).alloc (Nat.le_refl _) _⟩
  case round =>
    obtain ⟨j, hj, rfl, hown, hc, hs, hb⟩ := hrel
    by_cases hlt : j < 256
    · have HC := Lib.hid hc
      have c0 := cell4 hc 0 (by omega)
      have c1 := cell4 hc 1 (by omega)
      have c2 := cell4 hc 2 (by omega)
      have c3 := cell4 hc 3 (by omega)
      have hlen := listI_le (hasI f) j
      clear hc
      go_wp2_with fail
      refine (has_any f (j : Int) _).mono ?_
      rintro e w1 ⟨rfl, hb1⟩
      have hown1 := ownsRow_below hown hb1
      have hB1 : Below w.heap.size w w1 := hb.trans (hb1.mono hb.size)
      have HC1 := Lib.hid ((hb1.block _ (by omega)).trans HC.out)
      have hs1 : w.heap.size + 1 ≤ w1.heap.size := Nat.le_trans hs hb1.size
      clear c0 c1 c2 c3 hown hb hs hb1 HC
      cases hK : hasI f (j : Int)
      · have HK := Lib.hid (listI_no hK); clear hK
        go_wp2
        go_roundw
        case rel => exact ⟨j + 1, by omega, by go_num, by rw [HK.out]; exact hown1, HC1.out, hs1, hB1⟩
        case measure => simp [intOf]; omega
      · have HK := Lib.hid (listI_yes hK); clear hK
        go_wp2_with (first | (at_builtin; refine wpList_append_own _ rfl _ _ 32 rfl (w.heap.size + 1) 3 i0 (.int .i64 0) 1 8 Try.underlying32 hi hz0 hz1 hz2 rfl (by decide) _ _ _ rfl (hown1.alloc _) ⟨w1.heap.size, 0, none⟩ 1 1 [.int .i64 (j : Int)] rfl rfl ?c1 ?c2 ?c3 ?c4 ?c5 ?_))
        case c1 => exact cell_one_new _ _ _
        case c2 => intro u hu; simp at hu; subst hu; rfl
        case c3 => unfold maxLen; omega
        case c4 => omega
        case c5 => simp; omega
        · intro v' w2 hown2 hgrow _
          have hB2 : Below w.heap.size w w2 := (hB1.alloc (by omega) _).grown hgrow (by simp; omega) (fun k hk => by have := own_ge hown1 k hk; omega)
          have HC2 := Lib.hid ((hgrow.block w.heap.size (by simp; omega) (fun e => by have := own_ge hown1 _ e.symm; omega)).trans ((Below.heap_alloc _ _ _ (by omega)).trans HC1.out))
          have hs2 : w.heap.size + 1 ≤ w2.heap.size := by have := hgrow.size; simp at this; omega
          clear hgrow hown1 hB1 HC1 hs1
          go_wp2
          go_roundw
          case rel => exact ⟨j + 1, by omega, by go_num, by rw [HK.out]; simpa using hown2, HC2.out, hs2, hB2⟩
          case measure => simp [intOf]; omega
    · obtain rfl : j = 256 := by omega
      go_wp2
      go_ret
      exact ⟨_, rfl, ownsRow_base hown (by omega), hb⟩
end Go.Proofs.Ythloafbgfjhicaa
