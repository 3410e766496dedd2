/- The law's own first look (awake): what any right program answers. -/
import Derived.Test.YtecngmnfbdbjfaaEx
namespace Go.Proofs.Ytecngmnfbdbjfaa
open Go.RowKit Go.Maps Go
def S5 : ByteArray := ⟨#[97, 98, 97, 98, 97]⟩
def S4 : ByteArray := ⟨#[97, 98, 97, 98]⟩
def S3 : ByteArray := ⟨#[97, 98, 97]⟩
def S1 : ByteArray := ⟨#[97]⟩
theorem ab_okC (g : Nat) : okT (abC g) 19 = true := by
  have h0 := ok_leafT (s := sE 97 97) (ne_E (by omega) (by omega) (by omega)) (lv := 18) (by omega)
  have h1 := ok_leafT (s := sE 98 98) (ne_E (by omega) (by omega) (by omega)) (lv := 18) (by omega)
  have hf : fitsB (abC g) = true := by
    simp [fitsB, abC, Tr.k, Tr.s, Tr.lo, Tr.hi, Tr.n, Tr.kid, plainB, eq_z0, anyTo, leafT]
  unfold abC at hf ⊢
  simp only [okT, hf, Bool.and_eq_true, decide_eq_true_eq]
  refine ⟨by omega, trivial, allTo_iff.2 fun i hi => ?_⟩
  show okT (if i = 0 then leafT (sE 97 97) else leafT (sE 98 98)) 18 = true
  split
  · exact h0
  · exact h1
theorem ab_ok (g g' : Nat) : okT (abT g g') 20 = true := by
  have hf : fitsB (abT g g') = true := by
    simp [fitsB, abT, Tr.k, Tr.s, Tr.lo, Tr.hi, Tr.n, plainB, countsB, eq_z0]
  unfold abT at hf ⊢
  simp only [okT, hf, Bool.and_eq_true, decide_eq_true_eq]
  exact ⟨by omega, trivial, allTo_iff.2 fun i hi => ab_okC g⟩
theorem ab_right (g g' : Nat) : rightB (abT g g') = true := by
  have hc : cnt (abT g g') = 4 := by simp [abT, abC, cnt, sumTo, leafT]
  have hs : sz (abT g g') = 2 := by simp [abT, abC, sz, sumTo, leafT, ownT, timT, Tr.k, Tr.lo, Tr.hi, repM]; decide
  simp [rightB, ab_ok, hc, hs]
theorem r5_0 : abR S5 0 2 := ⟨by decide, by decide, by decide, rfl⟩
theorem r5_2 : abR S5 2 4 := ⟨by decide, by decide, by decide, rfl⟩
theorem r4_0 : abR S4 0 2 := ⟨by decide, by decide, by decide, rfl⟩
theorem r4_2 : abR S4 2 4 := ⟨by decide, by decide, by decide, rfl⟩
theorem ends_50 (g g' : Nat) : endsL S5 (abT g g') 0 = [0, 2, 4] := by
  unfold endsL
  rw [if_pos ⟨ab_right g g', by decide, by decide, by decide⟩, lst_eq (fun i => i == 0 || (i == 2 || i == 4))]
  · decide
  · intro i hi
    rw [ab_star]
    constructor
    · rintro ⟨q, hq⟩
      refine star_le (fun i => i == 0 || (i == 2 || i == 4)) rfl ?_ q i hq
      rintro a b ha ⟨h1, _, _, rfl⟩
      have h1 : a + 1 < 5 := h1
      rcases (show a = 0 ∨ a = 1 ∨ a = 2 ∨ a = 3 by omega) with rfl | rfl | rfl | rfl <;> first | rfl | cases ha
    · intro h
      have : i = 0 ∨ i = 2 ∨ i = 4 := by simpa using h
      rcases this with rfl | rfl | rfl
      · exact ⟨0, rfl⟩
      · exact ⟨1, 0, rfl, r5_0⟩
      · exact ⟨2, 2, ⟨0, rfl, r5_0⟩, r5_2⟩
theorem ends_51 (g g' : Nat) : endsL S5 (abT g g') 1 = [1] := by
  unfold endsL
  rw [if_pos ⟨ab_right g g', by decide, by decide, by decide⟩, lst_eq (fun i => i == 1)]
  · decide
  · intro i hi
    rw [ab_star]
    constructor
    · rintro ⟨q, hq⟩
      refine star_le (fun i => i == 1) rfl ?_ q i hq
      rintro a b ha ⟨_, h2, _, rfl⟩
      have : a = 1 := by simpa using ha
      subst this
      exact absurd h2 (by decide)
    · intro h
      have : i = 1 := by simpa using h
      subst this
      exact ⟨0, rfl⟩
theorem ends_12 (g g' : Nat) : endsL S1 (abT g g') 2 = [] := endsL_no (fun h => absurd h.2.2.2 (by decide))
theorem mat_4 (g g' : Nat) : matB S4 (abT g g') := ⟨ab_right g g', by decide, (ab_star S4 g g' 0 4).2 ⟨2, 2, ⟨0, rfl, r4_0⟩, r4_2⟩⟩
theorem mat_3 (g g' : Nat) : ¬ matB S3 (abT g g') := fun h => by
  obtain ⟨q, hq⟩ := (ab_star S3 g g' 0 3).1 h.2.2
  have := star_le (r := abR S3) (p := 0) (fun i => i == 0 || i == 2) rfl (by
    rintro a b ha ⟨h1, _, _, rfl⟩
    have h1 : a + 1 < 3 := h1
    rcases (show a = 0 ∨ a = 1 by omega) with rfl | rfl <;> first | rfl | cases ha) q 3 hq
  cases this
theorem lit_row {w : World} {g B : Nat} {l : List Nat} (h : w.heap[g]? = some (.cells (natV l).toArray 3 (0, 0))) (hB : B ≤ g) (hl : l.length ≤ 100) : w.ownsRow B 3 1 (.slice (some ⟨g, 0, none⟩) l.length l.length) l.length (natV l) :=
  ⟨by simp, Or.inr ⟨g, l.length, (natV l).toArray, rfl, hB, h, Nat.le_refl _, by unfold maxLen; omega, by simp, by simp [List.take_of_length_le]⟩⟩
/-- The pattern lies there. -/
theorem ab_lives {w : World} {g g' : Nat} (h1 : w.heap[g]? = some (.cells (rowTwo (leafT (sE 97 97)) (leafT (sE 98 98))) 30 (0, 0))) (h2 : w.heap[g']? = some (.cells (row8 3 z0 0 0 (.slice (some ⟨g, 0, none⟩) 2 2)) 30 (0, 0))) : Lives w w.heap.size (abT g g') := by
  have hc : Lives w w.heap.size (abC g) := by
    refine ⟨wf_z0, Nat.le_refl _, by unfold maxLen; omega, fun _ => ⟨g, 0, rfl, lt_of_some h1, two_at h1⟩, fun i hi => ?_⟩
    show Lives w w.heap.size (if i = 0 then leafT (sE 97 97) else leafT (sE 98 98))
    split
    · exact lives_leaf _ _ (wf_acc _)
    · exact lives_leaf _ _ (wf_acc _)
  refine ⟨wf_z0, Nat.le_refl _, by unfold maxLen; omega, fun _ => ⟨g', 0, rfl, lt_of_some h2, fun i hi => ?_⟩, fun i hi => hc⟩
  obtain rfl : i = 0 := by omega
  obtain ⟨d0, d1, d2, d3, d4, d5, d6, d7⟩ := cell8 (s := z0) h2
  exact ⟨d0, d1, d2, d3, d4, d5, d6, d7⟩
theorem three_old (w : World) (A B C : Obj) : (((w.alloc A).alloc B).alloc C).heap[w.heap.size]? = some A ∧ (((w.alloc A).alloc B).alloc C).heap[w.heap.size + 1]? = some B ∧ (((w.alloc A).alloc B).alloc C).heap[w.heap.size + 2]? = some C := by
  have e : ((w.alloc A).alloc B).heap.size = w.heap.size + 2 := by simp
  have hb := alloc_below ((w.alloc A).alloc B) C
  refine ⟨(hb.block _ (by omega)).trans (heap_alloc2_old _ _ _), (hb.block _ (by omega)).trans (heap_alloc2_new _ _ _), ?_⟩
  have := heap_alloc_new ((w.alloc A).alloc B) C
  rwa [e] at this
abbrev abV (g' : Nat) : Value := nodeV 5 z0 0 (-1) (.slice (some ⟨g', 0, none⟩) 1 1)
theorem ab_ends {w : World} {g g' : Nat} (hL : Lives w w.heap.size (abT g g')) {S : ByteArray} {at' : Int} {l : List Nat} (h : endsL S (abT g g') at' = l) : Calls Try.prog 13 #[abV g', .string S, .int .i64 at'] w fun e w' => ∃ v, e = .returned v ∧ w'.ownsRow w.heap.size 3 1 v l.length (natV l) ∧ Below w.heap.size w w' := by
  have := ends_any S (abT g g') at' w hL
  unfold EndsP at this
  rw [h] at this
  exact this
set_option maxRecDepth 100000 in
set_option maxHeartbeats 2000000 in
theorem awake5_any (w : World) : Calls Try.prog 7 #[] w fun e w' => e = .returned (.bool true) ∧ Below w.heap.size w w' := by
  obtain ⟨f, hf⟩ : ∃ f, f = sE 97 97 := ⟨_, rfl⟩
  obtain ⟨f', hf'⟩ : ∃ f', f' = sE 98 98 := ⟨_, rfl⟩
  have HA := Lib.hid (fun w => char5_any 97 w)
  have HB := Lib.hid (fun w => char5_any 98 w)
  rw [← hf] at HA
  rw [← hf'] at HB
  have HFF := Lib.hid hf
  have HFF' := Lib.hid hf'
  clear hf hf'
  go_enter Try.func7, Try.ntmps7
  go_wp2_with fail
  refine (HA.out _).mono ?_
  rintro e w1 ⟨rfl, hb1⟩
  go_wp2_with fail
  refine (HB.out _).mono ?_
  rintro e w2 ⟨rfl, hb2⟩
  have HB2 := Lib.hid (hb1.trans (hb2.mono hb1.size))
  clear hb1 hb2
  go_wp2_with fail
  have HWX : ∃ W, W = ((w2.alloc (.cells (rowTwo (leafT f) (leafT f')) 30)).alloc (.cells (row8 3 z0 0 0 (.slice (some ⟨w2.heap.size, 0, none⟩) 2 2)) 30)).alloc (.cells (row8 5 z0 0 (-1) (.slice (some ⟨w2.heap.size + 1, 0, none⟩) 1 1)) 30) := ⟨_, rfl⟩
  obtain ⟨W, hW⟩ := HWX
  have hbW : Below w.heap.size w W := by rw [hW]; exact HB2.out.trans ((alloc3_below w2 _ _ _).mono HB2.out.size)
  have hsW : w2.heap.size + 3 ≤ W.heap.size := by rw [hW]; simp
  have HX : Hid (∀ wX, Below W.heap.size W wX → Lives wX wX.heap.size (abT w2.heap.size (w2.heap.size + 1)) ∧ wX.heap[w2.heap.size + 1 + 1]? = some (.cells (row8 5 z0 0 (-1) (.slice (some ⟨w2.heap.size + 1, 0, none⟩) 1 1)) 30 (0, 0))) := Lib.hid fun wX hb => by
    obtain ⟨q1, q2, q3⟩ := three_old w2 (.cells (rowTwo (leafT f) (leafT f')) 30) (.cells (row8 3 z0 0 0 (.slice (some ⟨w2.heap.size, 0, none⟩) 2 2)) 30) (.cells (row8 5 z0 0 (-1) (.slice (some ⟨w2.heap.size + 1, 0, none⟩) 1 1)) 30)
    rw [← hW] at q1 q2 q3
    rw [HFF.out, HFF'.out] at q1
    exact ⟨ab_lives ((hb.block _ (by omega)).trans q1) ((hb.block _ (by omega)).trans q2), (hb.block _ (by omega)).trans q3⟩
  have H50 := Lib.hid (fun wX hb => ab_ends (HX.out wX hb).1 (ends_50 _ _))
  have H51 := Lib.hid (fun wX hb => ab_ends (HX.out wX hb).1 (ends_51 _ _))
  have H12 := Lib.hid (fun wX hb => ab_ends (HX.out wX hb).1 (ends_12 _ _))
  have H4 : Hid (∀ wX, Below W.heap.size W wX → Calls Try.prog 11 #[abV (w2.heap.size + 1), .string S4] wX fun e w' => e = .returned (.bool true) ∧ Below wX.heap.size wX w') := Lib.hid fun wX hb => (match_any S4 _ wX (HX.out wX hb).1).mono (by
    rintro e w' ⟨b, rfl, h, hb⟩
    exact ⟨by rw [h.2 (mat_4 _ _)], hb⟩)
  have H3 : Hid (∀ wX, Below W.heap.size W wX → Calls Try.prog 11 #[abV (w2.heap.size + 1), .string S3] wX fun e w' => e = .returned (.bool false) ∧ Below wX.heap.size wX w') := Lib.hid fun wX hb => (match_any S3 _ wX (HX.out wX hb).1).mono (by
    rintro e w' ⟨b, rfl, h, hb⟩
    refine ⟨?_, hb⟩
    cases b
    · rfl
    · exact absurd (h.1 rfl) (mat_3 _ _))
  have HBW := Lib.hid hbW
  show Calls Try.prog 13 _ (((w2.alloc (.cells (rowTwo (leafT f) (leafT f')) 30)).alloc (.cells (row8 3 z0 0 0 (.slice (some ⟨w2.heap.size, 0, none⟩) 2 2)) 30)).alloc (.cells (row8 5 z0 0 (-1) (.slice (some ⟨w2.heap.size + 1, 0, none⟩) 1 1)) 30)) _
  rw [← hW]
  clear hW hbW
  refine (H50.out W (Below.refl _ _)).mono ?_
  rintro e w3 ⟨v, rfl, hr3, hb3⟩
  have hs3 := hb3.size
  have HB3 := Lib.hid hb3
  have HI3 := Lib.hid (ints_same [0, 2, 4] v (.slice (some ⟨w3.heap.size, 0, none⟩) 3 3) _ w3.heap.size (w3.alloc (.cells (natV [0, 2, 4]).toArray 3)) (hr3.alloc _) (lit_row (l := [0, 2, 4]) (heap_alloc_new _ _) (Nat.le_refl _) (by decide)))
  obtain ⟨b0, b1, b2, b3, b4, b5, b6, b7⟩ := cell8 (s := z0) (HX.out w3 hb3).2
  clear hr3 hb3
  go_wp2_with fail
  refine HI3.out.mono ?_
  rintro e w4 ⟨rfl, hb4⟩
  have HB4 := Lib.hid (HB3.out.trans ((box_below hb4).mono hs3))
  have hs4 := HB4.out.size
  clear b0 b1 b2 b3 b4 b5 b6 b7
  obtain ⟨b0, b1, b2, b3, b4, b5, b6, b7⟩ := cell8 (s := z0) (HX.out w4 HB4.out).2
  clear hb4
  go_wp2_with fail
  refine (H51.out w4 HB4.out).mono ?_
  rintro e w5 ⟨v5, rfl, hr5, hb5⟩
  have HB5 := Lib.hid (HB4.out.trans (hb5.mono hs4))
  have hs5 := HB5.out.size
  have HI5 := Lib.hid (ints_same [1] v5 (.slice (some ⟨w5.heap.size, 0, none⟩) 1 1) _ w5.heap.size (w5.alloc (.cells (natV [1]).toArray 3)) (hr5.alloc _) (lit_row (l := [1]) (heap_alloc_new _ _) (Nat.le_refl _) (by decide)))
  clear b0 b1 b2 b3 b4 b5 b6 b7 hr5 hb5
  go_wp2_with fail
  refine HI5.out.mono ?_
  rintro e w6 ⟨rfl, hb6⟩
  have HB6 := Lib.hid (HB5.out.trans ((box_below hb6).mono hs5))
  have hs6 := HB6.out.size
  obtain ⟨b0, b1, b2, b3, b4, b5, b6, b7⟩ := cell8 (s := z0) (HX.out w6 HB6.out).2
  clear hb6
  go_wp2_with fail
  refine (H4.out w6 HB6.out).mono ?_
  rintro e w7 ⟨rfl, hb7⟩
  have HB7 := Lib.hid (HB6.out.trans (hb7.mono hs6))
  have hs7 := HB7.out.size
  clear b0 b1 b2 b3 b4 b5 b6 b7 hb7
  obtain ⟨b0, b1, b2, b3, b4, b5, b6, b7⟩ := cell8 (s := z0) (HX.out w7 HB7.out).2
  go_wp2_with fail
  refine (H3.out w7 HB7.out).mono ?_
  rintro e w8 ⟨rfl, hb8⟩
  have HB8 := Lib.hid (HB7.out.trans (hb8.mono hs7))
  have hs8 := HB8.out.size
  clear b0 b1 b2 b3 b4 b5 b6 b7 hb8
  obtain ⟨b0, b1, b2, b3, b4, b5, b6, b7⟩ := cell8 (s := z0) (HX.out w8 HB8.out).2
  go_wp2_with fail
  refine (H12.out w8 HB8.out).mono ?_
  rintro e w9 ⟨v9, rfl, hr9, hb9⟩
  obtain ⟨a9, c9, rfl, _, _⟩ := natV_has hr9
  have HF : Hid (Below w.heap.size w w9) := Lib.hid (HBW.out.trans ((HB8.out.trans (hb9.mono hs8)).mono HBW.out.size))
  clear b0 b1 b2 b3 b4 b5 b6 b7 hr9 hb9
  go_wp2
  go_ret
  exact ⟨rfl, HF.out⟩
end Go.Proofs.Ytecngmnfbdbjfaa
