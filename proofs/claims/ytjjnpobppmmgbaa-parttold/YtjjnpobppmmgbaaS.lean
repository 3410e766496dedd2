/- The law's comparison with the document's own answers (same) answers true for any sets. -/
import Derived.Test.YtjjnpobppmmgbaaW
namespace Go.Proofs.Ytjjnpobppmmgbaa
open Go.RowKit
set_option maxRecDepth 100000 in
set_option maxHeartbeats 4000000 in
theorem law_same (fs : List (Nat → Int)) (v : Value) (w : World) (hf : SetsAt w v fs) : Calls Try.prog 9 #[v] w fun e w' => e = .returned (.bool true) ∧ Below w.heap.size w w' := by
  have hn := cnt_le (alike fs) 256
  go_enter Try.func9, Try.ntmps9
  go_wp2_with fail
  refine (split_any fs v _ hf).mono ?_
  rintro e w1 ⟨rfl, hr1, hb1⟩
  have hf1 := hf.below hb1
  have HR1 := Lib.hid hr1
  clear hr1
  go_wp2_with fail
  refine (refsplit_any fs v _ hf1).mono ?_
  rintro e w2 ⟨b, rfl, hown2, hb2⟩
  have hsz : w.heap.size < w1.heap.size := by
    rcases Nat.lt_or_ge w.heap.size w1.heap.size with h | h
    · exact h
    · have := HR1.out; rw [Array.getElem?_eq_none h] at this; cases this
  have hown1 := row_of_split ((hb2.block _ hsz).trans HR1.out)
  have hB2 : Below w.heap.size w w2 := hb1.trans (hb2.mono hb1.size)
  have hown2' : w2.ownsRow w1.heap.size 3 1 b (listC (alike fs) 256).length ((listC (alike fs) 256).map (Value.int .i64)) := by rw [listC_length]; exact hown2
  generalize alike fs = R at *
  clear hb1 hb2 hown2 hf hf1 HR1
  go_wp2_with fail
  refine (ints_same _ hown1 hown2').mono ?_
  rintro e w3 ⟨rfl, hb3⟩
  have hB3 : Below w.heap.size w w3 := hB2.trans (hb3.mono hB2.size)
  have i1 := intsAt_of_row (ownsRow_below hown1 hb3) (by rw [listC_length]; omega)
  have i2 := intsAt_of_row (ownsRow_below hown2' hb3) (by rw [listC_length]; omega)
  clear hb3 hown1 hown2' hB2
  go_wp2_with fail
  refine (least_any _ _ _ (cntR R 256) _ (by omega) i1).mono ?_
  rintro e w4 ⟨v4, rfl, hown4, hb4⟩
  have hB4 : Below w.heap.size w w4 := hB3.trans (hb4.mono hB3.size)
  have i3 := i2.below hb4
  clear i1 i2 hb4 hB3
  go_wp2_with fail
  refine (refleast_any _ _ _ (cntR R 256) _ (by omega) i3).mono ?_
  rintro e w5 ⟨v5, rfl, hown5, hb5⟩
  have hB5 : Below w.heap.size w w5 := hB4.trans (hb5.mono hB4.size)
  have hown45 := ownsRow_below hown4 hb5
  clear i3 hb5 hB4 hown4
  go_wp2_with fail
  refine (ints_same _ hown45 hown5).mono ?_
  rintro e w6 ⟨rfl, hb6⟩
  go_wp2
  go_ret
  exact ⟨rfl, hB5.trans (hb6.mono hB5.size)⟩
set_option maxRecDepth 100000 in
set_option maxHeartbeats 4000000 in
theorem partSplit_few (fs : List (Nat → Int)) (a : Option Addr) (n cap : Nat) (w : World) (hn : n ≤ 12) (hf : SetsAt w (.slice a n cap) fs) : Calls Try.prog 3 #[.slice a n cap] w fun e w' => e = .returned (.bool true) ∧ Below w.heap.size w w' := by
  go_enter Try.func3, Try.ntmps3
  go_wp2_with fail
  refine (awake_any _).mono ?_
  rintro e w1 ⟨rfl, hb1⟩
  have hf1 := hf.below hb1
  go_wp2_with fail
  refine (law_same fs _ _ hf1).mono ?_
  rintro e w2 ⟨rfl, hb2⟩
  go_wp2
  go_ret
  exact ⟨rfl, hb1.trans (hb2.mono hb1.size)⟩
set_option maxHeartbeats 1000000 in
theorem partSplit_many (a : Option Addr) (n cap : Nat) (w : World) (hn : 12 < n) : Calls Try.prog 3 #[.slice a n cap] w fun e w' => e = .returned (.bool true) ∧ Below w.heap.size w w' := by
  go_enter Try.func3, Try.ntmps3
  go_wp2_with fail
  refine (awake_any _).mono ?_
  rintro e w1 ⟨rfl, hb1⟩
  go_wp2
  go_ret
  exact ⟨rfl, hb1⟩
set_option maxRecDepth 100000 in
set_option maxHeartbeats 4000000 in
theorem partLeast_few (zs : List Int) (a : Option Addr) (L cap : Nat) (n : Int) (w : World) (hn : L ≤ 300) (hf : IntsAt w (.slice a L cap) zs) : Calls Try.prog 5 #[.slice a L cap, .int .i64 n] w fun e w' => e = .returned (.bool true) ∧ Below w.heap.size w w' := by
  have HN : Hid ((capN n : Int) = min (max n 0) 256) := Lib.hid (by unfold capN; omega)
  go_enter Try.func5, Try.ntmps5
  go_wp2_with fail
  refine (awake_any _).mono ?_
  rintro e w1 ⟨rfl, hb1⟩
  have hf1 := hf.below hb1
  go_wp2_with fail
  refine (least_any zs _ n (capN n) _ HN.out hf1).mono ?_
  rintro e w4 ⟨v4, rfl, hown4, hb4⟩
  have hB4 : Below w.heap.size w w4 := hb1.trans (hb4.mono hb1.size)
  have hf4 := hf1.below hb4
  clear hf1 hf hb1 hb4
  go_wp2_with fail
  refine (refleast_any zs _ n (capN n) _ HN.out hf4).mono ?_
  rintro e w5 ⟨v5, rfl, hown5, hb5⟩
  have hB5 : Below w.heap.size w w5 := hB4.trans (hb5.mono hB4.size)
  have hown45 := ownsRow_below hown4 hb5
  clear hf4 hb5 hB4 hown4
  go_wp2_with fail
  refine (ints_same _ hown45 hown5).mono ?_
  rintro e w6 ⟨rfl, hb6⟩
  go_wp2
  go_ret
  exact ⟨rfl, hB5.trans (hb6.mono hB5.size)⟩
set_option maxHeartbeats 1000000 in
theorem partLeast_many (a : Option Addr) (L cap : Nat) (n : Int) (w : World) (hn : 300 < L) : Calls Try.prog 5 #[.slice a L cap, .int .i64 n] w fun e w' => e = .returned (.bool true) ∧ Below w.heap.size w w' := by
  go_enter Try.func5, Try.ntmps5
  go_wp2_with fail
  refine (awake_any _).mono ?_
  rintro e w1 ⟨rfl, hb1⟩
  go_wp2
  go_ret
  exact ⟨rfl, hb1⟩
theorem partSplit_any (fs : List (Nat → Int)) (a : Option Addr) (n cap : Nat) (w : World) (hf : n ≤ 1000 → SetsAt w (.slice a n cap) fs) : Calls Try.prog 3 #[.slice a n cap] w fun e w' => e = .returned (.bool true) ∧ Below w.heap.size w w' := by
  by_cases hn : n ≤ 12
  · exact partSplit_few fs a n cap w hn (hf (by omega))
  · exact partSplit_many a n cap w (by omega)
theorem partLeast_any (zs : List Int) (a : Option Addr) (L cap : Nat) (n : Int) (w : World) (hf : L ≤ 1000 → IntsAt w (.slice a L cap) zs) : Calls Try.prog 5 #[.slice a L cap, .int .i64 n] w fun e w' => e = .returned (.bool true) ∧ Below w.heap.size w w' := by
  by_cases hn : L ≤ 300
  · exact partLeast_few zs a L cap n w hn (hf (by omega))
  · exact partLeast_many a L cap n w (by omega)
end Go.Proofs.Ytjjnpobppmmgbaa
