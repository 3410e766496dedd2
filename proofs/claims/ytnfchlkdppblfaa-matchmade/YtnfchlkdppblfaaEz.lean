/- The law's own first look (awake): what any right program answers. -/
import Derived.Test.YtnfchlkdppblfaaEx
import Derived.IntWalk
import Derived.Laws.Concat
namespace Go.Proofs.Ytnfchlkdppblfaa
open Go.RowKit Go.Maps Go
def S5 : ByteArray := ⟨#[97, 98, 97, 98, 97]⟩
def S4 : ByteArray := ⟨#[97, 98, 97, 98]⟩
def S3 : ByteArray := ⟨#[97, 98, 97]⟩
def S1 : ByteArray := ⟨#[97]⟩
theorem ab_okC (g : Nat) : okT (abC g) 19 = true := by
  have h0 := ok_leafT (s := sE 97 97) (ne_E (by omega) (by omega) (by omega)) (lv := 18) (by omega)
  have h1 := ok_leafT (s := sE 98 98) (ne_E (by omega) (by omega) (by omega)) (lv := 18) (by omega)
  have hf : fitsB (abC g) = true := by
    simp [fitsB, abC, Tr.k, Tr.s, Tr.lo, Tr.hi, Tr.n, Tr.kid, plainB, eq_z0, anyTo, leafT]
  unfold abC at hf ⊢
  simp only [okT, hf, Bool.and_eq_true, decide_eq_true_eq]
  refine ⟨by omega, trivial, allTo_iff.2 fun i hi => ?_⟩
  show okT (if i = 0 then leafT (sE 97 97) else leafT (sE 98 98)) 18 = true
  split
  · exact h0
  · exact h1
theorem ab_ok (g g' : Nat) : okT (abT g g') 20 = true := by
  have hf : fitsB (abT g g') = true := by
    simp [fitsB, abT, Tr.k, Tr.s, Tr.lo, Tr.hi, Tr.n, plainB, countsB, eq_z0]
  unfold abT at hf ⊢
  simp only [okT, hf, Bool.and_eq_true, decide_eq_true_eq]
  exact ⟨by omega, trivial, allTo_iff.2 fun i hi => ab_okC g⟩
theorem ab_right (g g' : Nat) : rightB (abT g g') = true := by
  have hc : cnt (abT g g') = 4 := by simp [abT, abC, cnt, sumTo, leafT]
  have hs : sz (abT g g') = 2 := by simp [abT, abC, sz, sumTo, leafT, ownT, timT, Tr.k, Tr.lo, Tr.hi, repM]; decide
  simp [rightB, ab_ok, hc, hs]
theorem r5_0 : abR S5 0 2 := ⟨by decide, by decide, by decide, rfl⟩
theorem r5_2 : abR S5 2 4 := ⟨by decide, by decide, by decide, rfl⟩
theorem r4_0 : abR S4 0 2 := ⟨by decide, by decide, by decide, rfl⟩
theorem r4_2 : abR S4 2 4 := ⟨by decide, by decide, by decide, rfl⟩
theorem ends_50 (g g' : Nat) : endsL S5 (abT g g') 0 = [0, 2, 4] := by
  unfold endsL
  rw [if_pos ⟨ab_right g g', by decide, by decide, by decide⟩, lst_eq (fun i => i == 0 || (i == 2 || i == 4))]
  · decide
  · intro i hi
    rw [ab_star]
    constructor
    · rintro ⟨q, hq⟩
      refine star_le (fun i => i == 0 || (i == 2 || i == 4)) rfl ?_ q i hq
      rintro a b ha ⟨h1, _, _, rfl⟩
      have h1 : a + 1 < 5 := h1
      rcases (show a = 0 ∨ a = 1 ∨ a = 2 ∨ a = 3 by omega) with rfl | rfl | rfl | rfl <;> first | rfl | cases ha
    · intro h
      have : i = 0 ∨ i = 2 ∨ i = 4 := by simpa using h
      rcases this with rfl | rfl | rfl
      · exact ⟨0, rfl⟩
      · exact ⟨1, 0, rfl, r5_0⟩
      · exact ⟨2, 2, ⟨0, rfl, r5_0⟩, r5_2⟩
theorem ends_51 (g g' : Nat) : endsL S5 (abT g g') 1 = [1] := by
  unfold endsL
  rw [if_pos ⟨ab_right g g', by decide, by decide, by decide⟩, lst_eq (fun i => i == 1)]
  · decide
  · intro i hi
    rw [ab_star]
    constructor
    · rintro ⟨q, hq⟩
      refine star_le (fun i => i == 1) rfl ?_ q i hq
      rintro a b ha ⟨_, h2, _, rfl⟩
      have : a = 1 := by simpa using ha
      subst this
      exact absurd h2 (by decide)
    · intro h
      have : i = 1 := by simpa using h
      subst this
      exact ⟨0, rfl⟩
theorem ends_12 (g g' : Nat) : endsL S1 (abT g g') 2 = [] := endsL_no (fun h => absurd h.2.2.2 (by decide))
theorem mat_4 (g g' : Nat) : matB S4 (abT g g') := ⟨ab_right g g', by decide, (ab_star S4 g g' 0 4).2 ⟨2, 2, ⟨0, rfl, r4_0⟩, r4_2⟩⟩
theorem mat_3 (g g' : Nat) : ¬ matB S3 (abT g g') := fun h => by
  obtain ⟨q, hq⟩ := (ab_star S3 g g' 0 3).1 h.2.2
  have := star_le (r := abR S3) (p := 0) (fun i => i == 0 || i == 2) rfl (by
    rintro a b ha ⟨h1, _, _, rfl⟩
    have h1 : a + 1 < 3 := h1
    rcases (show a = 0 ∨ a = 1 by omega) with rfl | rfl <;> first | rfl | cases ha) q 3 hq
  cases this
theorem lit_row {w : World} {g B : Nat} {l : List Nat} (h : w.heap[g]? = some (.cells (natV l).toArray 3 (0, 0))) (hB : B ≤ g) (hl : l.length ≤ 100) : w.ownsRow B 3 1 (.slice (some ⟨g, 0, none⟩) l.length l.length) l.length (natV l) :=
  ⟨by simp, Or.inr ⟨g, l.length, (natV l).toArray, rfl, hB, h, Nat.le_refl _, by unfold maxLen; omega, by simp, by simp [List.take_of_length_le]⟩⟩
/-- The pattern lies there. -/
theorem ab_lives {w : World} {g g' : Nat} (h1 : w.heap[g]? = some (.cells (rowTwo (leafT (sE 97 97)) (leafT (sE 98 98))) 30 (0, 0))) (h2 : w.heap[g']? = some (.cells (row8 3 z0 0 0 (.slice (some ⟨g, 0, none⟩) 2 2)) 30 (0, 0))) : Lives w w.heap.size (abT g g') := by
  have hc : Lives w w.heap.size (abC g) := by
    refine ⟨wf_z0, Nat.le_refl _, by unfold maxLen; omega, fun _ => ⟨g, 0, rfl, lt_of_some h1, two_at h1⟩, fun i hi => ?_⟩
    show Lives w w.heap.size (if i = 0 then leafT (sE 97 97) else leafT (sE 98 98))
    split
    · exact lives_leaf _ _ (wf_acc _)
    · exact lives_leaf _ _ (wf_acc _)
  refine ⟨wf_z0, Nat.le_refl _, by unfold maxLen; omega, fun _ => ⟨g', 0, rfl, lt_of_some h2, fun i hi => ?_⟩, fun i hi => hc⟩
  obtain rfl : i = 0 := by omega
  obtain ⟨d0, d1, d2, d3, d4, d5, d6, d7⟩ := cell8 (s := z0) h2
  exact ⟨d0, d1, d2, d3, d4, d5, d6, d7⟩
theorem three_old (w : World) (A B C : Obj) : (((w.alloc A).alloc B).alloc C).heap[w.heap.size]? = some A ∧ (((w.alloc A).alloc B).alloc C).heap[w.heap.size + 1]? = some B ∧ (((w.alloc A).alloc B).alloc C).heap[w.heap.size + 2]? = some C := by
  have e : ((w.alloc A).alloc B).heap.size = w.heap.size + 2 := by simp
  have hb := alloc_below ((w.alloc A).alloc B) C
  refine ⟨(hb.block _ (by omega)).trans (heap_alloc2_old _ _ _), (hb.block _ (by omega)).trans (heap_alloc2_new _ _ _), ?_⟩
  have := heap_alloc_new ((w.alloc A).alloc B) C
  rwa [e] at this
abbrev abV (g' : Nat) : Value := nodeV 5 z0 0 (-1) (.slice (some ⟨g', 0, none⟩) 1 1)
theorem ab_ends {w : World} {g g' : Nat} (hL : Lives w w.heap.size (abT g g')) {S : ByteArray} {at' : Int} {l : List Nat} (h : endsL S (abT g g') at' = l) : Calls Try.prog 10 #[abV g', .string S, .int .i64 at'] w fun e w' => ∃ v, e = .returned v ∧ w'.ownsRow w.heap.size 3 1 v l.length (natV l) ∧ Below w.heap.size w w' := by
  have := ends_any S (abT g g') at' w hL
  unfold EndsP at this
  rw [h] at this
  exact this
set_option maxRecDepth 100000 in
set_option maxHeartbeats 2000000 in
theorem awake5_any (w : World) : Calls Try.prog 4 #[] w fun e w' => e = .returned (.bool true) ∧ Below w.heap.size w w' := by
  obtain ⟨f, hf⟩ : ∃ f, f = sE 97 97 := ⟨_, rfl⟩
  obtain ⟨f', hf'⟩ : ∃ f', f' = sE 98 98 := ⟨_, rfl⟩
  have HA := Lib.hid (fun w => char5_any 97 w)
  have HB := Lib.hid (fun w => char5_any 98 w)
  rw [← hf] at HA
  rw [← hf'] at HB
  have HFF := Lib.hid hf
  have HFF' := Lib.hid hf'
  clear hf hf'
  go_enter Try.func4, Try.ntmps4
  go_wp2_with fail
  refine (HA.out _).mono ?_
  rintro e w1 ⟨rfl, hb1⟩
  go_wp2_with fail
  refine (HB.out _).mono ?_
  rintro e w2 ⟨rfl, hb2⟩
  have HB2 := Lib.hid (hb1.trans (hb2.mono hb1.size))
  clear hb1 hb2
  go_wp2_with fail
  have HWX : ∃ W, W = ((w2.alloc (.cells (rowTwo (leafT f) (leafT f')) 30)).alloc (.cells (row8 3 z0 0 0 (.slice (some ⟨w2.heap.size, 0, none⟩) 2 2)) 30)).alloc (.cells (row8 5 z0 0 (-1) (.slice (some ⟨w2.heap.size + 1, 0, none⟩) 1 1)) 30) := ⟨_, rfl⟩
  obtain ⟨W, hW⟩ := HWX
  have hbW : Below w.heap.size w W := by rw [hW]; exact HB2.out.trans ((alloc3_below w2 _ _ _).mono HB2.out.size)
  have hsW : w2.heap.size + 3 ≤ W.heap.size := by rw [hW]; simp
  have HX : Hid (∀ wX, Below W.heap.size W wX → Lives wX wX.heap.size (abT w2.heap.size (w2.heap.size + 1)) ∧ wX.heap[w2.heap.size + 1 + 1]? = some (.cells (row8 5 z0 0 (-1) (.slice (some ⟨w2.heap.size + 1, 0, none⟩) 1 1)) 30 (0, 0))) := Lib.hid fun wX hb => by
    obtain ⟨q1, q2, q3⟩ := three_old w2 (.cells (rowTwo (leafT f) (leafT f')) 30) (.cells (row8 3 z0 0 0 (.slice (some ⟨w2.heap.size, 0, none⟩) 2 2)) 30) (.cells (row8 5 z0 0 (-1) (.slice (some ⟨w2.heap.size + 1, 0, none⟩) 1 1)) 30)
    rw [← hW] at q1 q2 q3
    rw [HFF.out, HFF'.out] at q1
    exact ⟨ab_lives ((hb.block _ (by omega)).trans q1) ((hb.block _ (by omega)).trans q2), (hb.block _ (by omega)).trans q3⟩
  have H50 := Lib.hid (fun wX hb => ab_ends (HX.out wX hb).1 (ends_50 _ _))
  have H51 := Lib.hid (fun wX hb => ab_ends (HX.out wX hb).1 (ends_51 _ _))
  have H12 := Lib.hid (fun wX hb => ab_ends (HX.out wX hb).1 (ends_12 _ _))
  have H4 : Hid (∀ wX, Below W.heap.size W wX → Calls Try.prog 11 #[abV (w2.heap.size + 1), .string S4] wX fun e w' => e = .returned (.bool true) ∧ Below wX.heap.size wX w') := Lib.hid fun wX hb => (match_any S4 _ wX (HX.out wX hb).1).mono (by
    rintro e w' ⟨b, rfl, h, hb⟩
    exact ⟨by rw [h.2 (mat_4 _ _)], hb⟩)
  have H3 : Hid (∀ wX, Below W.heap.size W wX → Calls Try.prog 11 #[abV (w2.heap.size + 1), .string S3] wX fun e w' => e = .returned (.bool false) ∧ Below wX.heap.size wX w') := Lib.hid fun wX hb => (match_any S3 _ wX (HX.out wX hb).1).mono (by
    rintro e w' ⟨b, rfl, h, hb⟩
    refine ⟨?_, hb⟩
    cases b
    · rfl
    · exact absurd (h.1 rfl) (mat_3 _ _))
  have HBW := Lib.hid hbW
  show Calls Try.prog 10 _ (((w2.alloc (.cells (rowTwo (leafT f) (leafT f')) 30)).alloc (.cells (row8 3 z0 0 0 (.slice (some ⟨w2.heap.size, 0, none⟩) 2 2)) 30)).alloc (.cells (row8 5 z0 0 (-1) (.slice (some ⟨w2.heap.size + 1, 0, none⟩) 1 1)) 30)) _
  rw [← hW]
  clear hW hbW
  refine (H50.out W (Below.refl _ _)).mono ?_
  rintro e w3 ⟨v, rfl, hr3, hb3⟩
  have hs3 := hb3.size
  have HB3 := Lib.hid hb3
  have HI3 := Lib.hid (ints_same [0, 2, 4] v (.slice (some ⟨w3.heap.size, 0, none⟩) 3 3) _ w3.heap.size (w3.alloc (.cells (natV [0, 2, 4]).toArray 3)) (hr3.alloc _) (lit_row (l := [0, 2, 4]) (heap_alloc_new _ _) (Nat.le_refl _) (by decide)))
  obtain ⟨b0, b1, b2, b3, b4, b5, b6, b7⟩ := cell8 (s := z0) (HX.out w3 hb3).2
  clear hr3 hb3
  go_wp2_with fail
  refine HI3.out.mono ?_
  rintro e w4 ⟨rfl, hb4⟩
  have HB4 := Lib.hid (HB3.out.trans ((box_below hb4).mono hs3))
  have hs4 := HB4.out.size
  clear b0 b1 b2 b3 b4 b5 b6 b7
  obtain ⟨b0, b1, b2, b3, b4, b5, b6, b7⟩ := cell8 (s := z0) (HX.out w4 HB4.out).2
  clear hb4
  go_wp2_with fail
  refine (H51.out w4 HB4.out).mono ?_
  rintro e w5 ⟨v5, rfl, hr5, hb5⟩
  have HB5 := Lib.hid (HB4.out.trans (hb5.mono hs4))
  have hs5 := HB5.out.size
  have HI5 := Lib.hid (ints_same [1] v5 (.slice (some ⟨w5.heap.size, 0, none⟩) 1 1) _ w5.heap.size (w5.alloc (.cells (natV [1]).toArray 3)) (hr5.alloc _) (lit_row (l := [1]) (heap_alloc_new _ _) (Nat.le_refl _) (by decide)))
  clear b0 b1 b2 b3 b4 b5 b6 b7 hr5 hb5
  go_wp2_with fail
  refine HI5.out.mono ?_
  rintro e w6 ⟨rfl, hb6⟩
  have HB6 := Lib.hid (HB5.out.trans ((box_below hb6).mono hs5))
  have hs6 := HB6.out.size
  obtain ⟨b0, b1, b2, b3, b4, b5, b6, b7⟩ := cell8 (s := z0) (HX.out w6 HB6.out).2
  clear hb6
  go_wp2_with fail
  refine (H4.out w6 HB6.out).mono ?_
  rintro e w7 ⟨rfl, hb7⟩
  have HB7 := Lib.hid (HB6.out.trans (hb7.mono hs6))
  have hs7 := HB7.out.size
  clear b0 b1 b2 b3 b4 b5 b6 b7 hb7
  obtain ⟨b0, b1, b2, b3, b4, b5, b6, b7⟩ := cell8 (s := z0) (HX.out w7 HB7.out).2
  go_wp2_with fail
  refine (H3.out w7 HB7.out).mono ?_
  rintro e w8 ⟨rfl, hb8⟩
  have HB8 := Lib.hid (HB7.out.trans (hb8.mono hs7))
  have hs8 := HB8.out.size
  clear b0 b1 b2 b3 b4 b5 b6 b7 hb8
  obtain ⟨b0, b1, b2, b3, b4, b5, b6, b7⟩ := cell8 (s := z0) (HX.out w8 HB8.out).2
  go_wp2_with fail
  refine (H12.out w8 HB8.out).mono ?_
  rintro e w9 ⟨v9, rfl, hr9, hb9⟩
  obtain ⟨a9, c9, rfl, _, _⟩ := natV_has hr9
  have HF : Hid (Below w.heap.size w w9) := Lib.hid (HBW.out.trans ((HB8.out.trans (hb9.mono hs8)).mono HBW.out.size))
  clear b0 b1 b2 b3 b4 b5 b6 b7 hr9 hb9
  go_wp2
  go_ret
  exact ⟨rfl, HF.out⟩
end Go.Proofs.Ytnfchlkdppblfaa
/- The law's own Text: a text by numbers, of at most 12 bytes. -/
namespace Go.Proofs.Ytnfchlkdppblfaa
open Go.RowKit Go.Maps Go
set_option maxRecDepth 100000 in
set_option maxHeartbeats 1000000 in
theorem text_any (a : Option Addr) (n cap : Nat) (F : Nat → Int) (w : World) (h : ByteRow w a n F) (hF : ∀ i, 0 ≤ F i ∧ F i < 256) (hn : n ≤ 9223372036854775807) : Calls Try.prog 7 #[.slice a n cap] w fun e w' => ∃ S : ByteArray, e = .returned (.string S) ∧ S.size ≤ 12 ∧ Below w.heap.size w w' := by
  have HR := Lib.hid h
  have HF := Lib.hid hF
  clear h hF
  go_enter Try.func7, Try.ntmps7
  go_wp2
  go_loopw [3, 4] (fun v i wr => ∃ (q : Nat) (S : ByteArray), q ≤ 12 ∧ q ≤ n ∧ i = .int .i64 q ∧ v = .string S ∧ S.size = q ∧ ∃ k, wr = w.drewN k) (fun _ i _ => 12 - (RowKit.intOf i).toNat)
  case atStart => exact ⟨0, ⟨#[]⟩, by omega, by omega, rfl, rfl, rfl, 0, rfl⟩
  case round =>
    obtain ⟨q, S, hq, hqn, rfl, rfl, hS, kk, rfl⟩ := hrel
    have HS := Lib.hid hS
    clear hS
    by_cases hlt : q < n
    · by_cases h12 : q < 12
      · have hlt' : (q : Int) < (n : Int) := by omega
        have h12' : (q : Int) < 12 := by omega
        obtain ⟨g, off, rfl, hg, hc⟩ := HR.out (by omega)
        have hcq := hc q hlt
        clear hc
        obtain ⟨x, hx⟩ : ∃ x : Nat, F q = (x : Int) := ⟨(F q).toNat, by have := HF.out q; omega⟩
        have hx2 : x < 256 := by have := HF.out q; omega
        rw [hx] at hcq
        clear hx
        obtain ⟨m, hm⟩ : ∃ m : Nat, (x : Int).tmod 12 = (m : Int) ∧ m < 12 := ⟨x % 12, by rw [Int.tmod_eq_emod_of_nonneg (by omega)]; omega, by omega⟩
        have e1 : IntKind.i64.wrap (x : Int) = (x : Int) := IntWalk.i64_in _ (by omega)
        have e2 := hm.1
        have e3 : IntKind.i64.wrap (m : Int) = (m : Int) := IntWalk.i64_in _ (by omega)
        have e4 : IntKind.i64.wrap ((m : Int) + 1) = (m : Int) + 1 := IntWalk.i64_in _ (by omega)
        have e5 : ((m : Int) + 1).toNat = m + 1 := by omega
        have e6 : m < 12 := hm.2
        have e7 : (0 : Int) ≤ (m : Int) + 1 := by omega
        have e8 : (m : Int) ≤ (m : Int) + 1 := by omega
        have e9 : (m : Int) + 1 ≤ 12 := by omega
        clear hm
        have hz1 : ¬ (9223372036854775807 < S.size + (min (m + 1) 12 - m)) := by have := HS.out; omega
        have hz2 : ¬ (9223372036854775807 < S.size + ((⟨#[97, 97, 98, 98, 99, 99, 45, 90, 10, 48, 0, 255]⟩ : ByteArray).extract m (m + 1)).size) := by rw [ByteArray.size_extract]; exact hz1
        have hz3 : S.size + ((⟨#[97, 97, 98, 98, 99, 99, 45, 90, 10, 48, 0, 255]⟩ : ByteArray).extract m (m + 1)).size ≤ 9223372036854775807 := by omega
        go_wp2
        go_quiet (fail)
        go_wp2
        refine ⟨⟨q + 1, _, by omega, by omega, by go_num, rfl, ?_, _, rfl⟩, by simp [RowKit.intOf]; omega⟩
        rw [ByteArray.size_append, ByteArray.size_extract, HS.out]
        show q + (min (m + 1) 12 - m) = q + 1
        omega
      · obtain rfl : q = 12 := by omega
        have hlt' : (12 : Int) < (n : Int) := by omega
        go_wp2
        go_ret
        exact ⟨S, rfl, by have := HS.out; omega, below_drewN (Below.refl _ _) _⟩
    · have hlt' : ¬ (q : Int) < (n : Int) := by omega
      go_wp2
      go_ret
      exact ⟨S, rfl, by have := HS.out; omega, below_drewN (Below.refl _ _) _⟩
/-! What is matched in a part of a text. -/
theorem chain_up {r : Nat → Nat → Nat → Prop} : ∀ {n : Nat}, (∀ q, q < n → ∀ i j, r q i j → i ≤ j) → ∀ i j, chain r n i j → i ≤ j
  | 0, _, i, j, e => by cases e; exact Nat.le_refl _
  | n + 1, h, i, j, ⟨x, h1, h2⟩ => Nat.le_trans (chain_up (n := n) (fun q hq => h q (by omega)) i x h1) (h n (by omega) x j h2)
theorem pw_up {r : Nat → Nat → Prop} (h : ∀ i j, r i j → i ≤ j) : ∀ q i j, pw r q i j → i ≤ j
  | 0, i, j, e => by cases e; exact Nat.le_refl _
  | q + 1, i, j, ⟨x, h1, h2⟩ => Nat.le_trans (pw_up h q i x h1) (h x j h2)
theorem mt_up (c : Nat → Int) (L : Nat) : ∀ (t : Tr) (i j : Nat), mt c L t i j → i ≤ j
  | .node k s lo hi a n cap kid, i, j, h => by
    have IH := fun q => mt_up c L (kid q)
    unfold mt at h
    split at h
    · cases h; exact Nat.le_refl _
    · split at h
      · have := h.2.2; omega
      · split at h
        · exact chain_up (fun q _ => IH q) i j h
        · split at h
          · obtain ⟨q, _, h⟩ := h; exact IH q i j h
          · obtain ⟨q, _, _, h⟩ := h; exact pw_up (IH 0) q i j h
  | .nul, _, _, h => h.elim
theorem chain_sub {r' r : Nat → Nat → Nat → Prop} {k M : Nat} : ∀ {n : Nat}, (∀ q, q < n → ∀ a b, b ≤ M → (r' q a b ↔ r q (k + a) (k + b))) → (∀ q, q < n → ∀ i j, r q i j → i ≤ j) → (∀ q, q < n → ∀ i j, r' q i j → i ≤ j) → ∀ a b, b ≤ M → (chain r' n a b ↔ chain r n (k + a) (k + b))
  | 0, _, _, _, a, b, _ => ⟨fun (e : a = b) => show k + a = k + b by rw [e], fun (e : k + a = k + b) => show a = b by omega⟩
  | n + 1, h, hu, hu', a, b, hb => by
    have ih := chain_sub (n := n) (fun q hq => h q (by omega)) (fun q hq => hu q (by omega)) (fun q hq => hu' q (by omega))
    constructor
    · rintro ⟨x, h1, h2⟩
      have hx := hu' n (by omega) x b h2
      exact ⟨k + x, (ih a x (by omega)).1 h1, (h n (by omega) x b hb).1 h2⟩
    · rintro ⟨y, h1, h2⟩
      have hy := hu n (by omega) y _ h2
      have hy' := chain_up (fun q hq => hu q (by omega)) _ y h1
      obtain ⟨x, rfl⟩ : ∃ x, y = k + x := ⟨y - k, by omega⟩
      exact ⟨x, (ih a x (by omega)).2 h1, (h n (by omega) x b hb).2 h2⟩
theorem pw_sub {r' r : Nat → Nat → Prop} {k M : Nat} (h : ∀ a b, b ≤ M → (r' a b ↔ r (k + a) (k + b))) (hu : ∀ i j, r i j → i ≤ j) (hu' : ∀ i j, r' i j → i ≤ j) : ∀ q a b, b ≤ M → (pw r' q a b ↔ pw r q (k + a) (k + b))
  | 0, a, b, _ => ⟨fun (e : a = b) => show k + a = k + b by rw [e], fun (e : k + a = k + b) => show a = b by omega⟩
  | q + 1, a, b, hb => by
    have ih := pw_sub h hu hu' q
    constructor
    · rintro ⟨x, h1, h2⟩
      have hx := hu' x b h2
      exact ⟨k + x, (ih a x (by omega)).1 h1, (h x b hb).1 h2⟩
    · rintro ⟨y, h1, h2⟩
      have hy := hu y _ h2
      have hy' := pw_up hu q _ y h1
      obtain ⟨x, rfl⟩ : ∃ x, y = k + x := ⟨y - k, by omega⟩
      exact ⟨x, (ih a x (by omega)).2 h1, (h x b hb).2 h2⟩
theorem mt_sub {c c' : Nat → Int} {L M k : Nat} (hc : ∀ i, i < M → c' i = c (k + i)) (hM : k + M ≤ L) : ∀ (t : Tr) (a b : Nat), b ≤ M → (mt c' M t a b ↔ mt c L t (k + a) (k + b))
  | .node kk s lo hi ad n cap kid, a, b, hb => by
    have IH := fun q => mt_sub hc hM (kid q)
    unfold mt
    split
    · omega
    · split
      · constructor
        · rintro ⟨h1, h2, h3⟩; exact ⟨by omega, by rw [← hc a h1]; exact h2, by omega⟩
        · rintro ⟨h1, h2, h3⟩; exact ⟨by omega, by rw [hc a (by omega)]; exact h2, by omega⟩
      · split
        · exact chain_sub (fun q _ => IH q) (fun q _ => mt_up c L (kid q)) (fun q _ => mt_up c' M (kid q)) a b hb
        · split
          · exact exists_congr fun q => and_congr_right fun _ => IH q a b hb
          · unfold tms
            exact exists_congr fun q => and_congr_right fun _ => and_congr_right fun _ => pw_sub (IH 0) (mt_up c L (kid 0)) (mt_up c' M (kid 0)) q a b hb
  | .nul, _, _, _ => Iff.rfl
theorem nx_sub (S : ByteArray) {k j : Nat} (hk : k ≤ j) (hj : j ≤ S.size) : (S.extract k j).size = j - k ∧ ∀ i, i < j - k → nx (S.extract k j) i = nx S (k + i) := by
  have hs : (S.extract k j).size = j - k := by rw [ByteArray.size_extract, Nat.min_eq_left hj]
  refine ⟨hs, fun i hi => ?_⟩
  rw [nx_in (by omega), nx_in (by omega)]
  have : (S.extract k j)[i]'(by omega) = S[k + i]'(by omega) := ByteArray.getElem_extract (by omega)
  rw [this]
theorem mat_sub (S : ByteArray) (t : Tr) {k j : Nat} (hk : k ≤ j) (hj : j ≤ S.size) (hS : S.size ≤ 10000) (hr : rightB t = true) : matB (S.extract k j) t ↔ mt (nx S) S.size t k j := by
  obtain ⟨hs, hn⟩ := nx_sub S hk hj
  unfold matB
  rw [hs]
  have := mt_sub (L := S.size) hn (by omega) t 0 (j - k) (Nat.le_refl _)
  rw [Nat.add_zero, show k + (j - k) = j by omega] at this
  rw [this]
  exact ⟨fun h => h.2.2, fun h => ⟨hr, by omega, h⟩⟩
/-- How many there are below j. -/
noncomputable def blw (R : Nat → Prop) (j : Nat) : Nat := by
  classical
  exact ((List.range j).filter fun i => decide (R i)).length
theorem blw_yes {R : Nat → Prop} {j : Nat} (h : R j) : blw R (j + 1) = blw R j + 1 := by
  classical
  unfold blw
  rw [List.range_succ, List.filter_append]
  simp [h]
theorem blw_no {R : Nat → Prop} {j : Nat} (h : ¬ R j) : blw R (j + 1) = blw R j := by
  classical
  unfold blw
  rw [List.range_succ, List.filter_append]
  simp [h]
theorem blw_all (L : Nat) (R : Nat → Prop) : blw R (L + 1) = (lst L R).length := rfl
theorem blw_zero {R : Nat → Prop} {j : Nat} (h : ∀ i, i < j → ¬ R i) : blw R j = 0 := by
  induction j with
  | zero => rfl
  | succ j ih => rw [blw_no (h j (by omega)), ih fun i hi => h i (by omega)]
theorem blw_at {L j : Nat} {R : Nat → Prop} (hj : j ≤ L) : (blw R j < (lst L R).length ∧ (lst L R).getD (blw R j) 0 = j) ↔ R j := by
  classical
  have e : lst L R = ((List.range j).filter fun i => decide (R i)) ++ (((List.range (L + 1 - j)).map (j + ·)).filter fun i => decide (R i)) := by
    unfold lst
    rw [show L + 1 = j + (L + 1 - j) by omega, List.range_add, List.filter_append, show j + (L + 1 - j) - j = L + 1 - j by omega]
  obtain ⟨m, hm⟩ : ∃ m, L + 1 - j = m + 1 := ⟨L - j, by omega⟩
  rw [hm, List.range_succ_eq_map, List.map_cons] at e
  have hA : ((List.range j).filter fun i => decide (R i)).length = blw R j := rfl
  obtain ⟨A, hAA⟩ : ∃ A, A = (List.range j).filter fun i => decide (R i) := ⟨_, rfl⟩
  rw [← hAA] at e hA
  by_cases h : R j
  · rw [List.filter_cons_of_pos (by simpa using h)] at e
    rw [e, ← hA]
    refine ⟨fun _ => h, fun _ => ⟨by simp, ?_⟩⟩
    simp
  · rw [List.filter_cons_of_neg (by simpa using h)] at e
    refine ⟨?_, fun q => absurd q h⟩
    rintro ⟨h1, h2⟩
    exfalso
    rw [e, ← hA, List.getD_eq_getElem?_getD, List.getElem?_append_right (Nat.le_refl _), Nat.sub_self] at h2
    rw [e, ← hA, List.length_append] at h1
    obtain ⟨Bq, hB⟩ : ∃ Bq, Bq = (List.map (fun x => j + x) (List.map Nat.succ (List.range m))).filter fun i => decide (R i) := ⟨_, rfl⟩
    rw [← hB] at h1 h2
    cases Bq with
    | nil => simp at h1
    | cons b l =>
      have hb : b ∈ (List.map (fun x => j + x) (List.map Nat.succ (List.range m))).filter fun i => decide (R i) := by rw [← hB]; simp
      simp only [List.mem_filter, List.mem_map] at hb
      obtain ⟨⟨x, ⟨y, _, rfl⟩, rfl⟩, _⟩ := hb
      simp at h2
end Go.Proofs.Ytnfchlkdppblfaa
