/- The law's own first look (awake) answers true, whatever the memory. No conditions. -/
import Derived.Test.YtjjnpobppmmgbaaF
import Derived.Test.YtjjnpobppmmgbaaR
namespace Go.Proofs.Ytjjnpobppmmgbaa
open Go.RowKit
theorem intsAt_of_row {w : World} {base : Nat} {v : Value} {zs : List Int} (o : w.ownsRow base 3 1 v zs.length (zs.map (Value.int .i64))) (hl : zs.length ≤ 1000) : IntsAt w v zs := by
  obtain ⟨a, cap, rfl⟩ := row_slice o
  refine ⟨a, cap, rfl, hl, fun hp => ?_⟩
  obtain ⟨g, cap', hv, _, hg, _, _, hc⟩ := row_cells o hp
  cases hv
  refine ⟨g, 0, rfl, hg, fun i hi => ?_⟩
  rw [Nat.zero_add]
  refine hc i _ ?_
  rw [List.getElem?_map, List.getElem?_eq_getElem hi, List.getD_eq_getElem?_getD, List.getElem?_eq_getElem hi]; rfl
theorem rowN_list (R : Nat → Nat → Bool) : (rowN (clsR R)).toList = (listC R 256).map (Value.int .i64) := by simp [rowN, listC]
theorem row_of_split {w w' : World} {R : Nat → Nat → Bool} (h : w'.heap[w.heap.size]? = some (.cells (rowN (clsR R)) 3 (0, 0))) :
    w'.ownsRow w.heap.size 3 1 (.slice (some ⟨w.heap.size, 0, none⟩) 256 256) (listC R 256).length ((listC R 256).map (Value.int .i64)) := by
  rw [listC_length]
  refine ⟨by simp [listC_length], Or.inr ⟨w.heap.size, 256, _, rfl, Nat.le_refl _, h, Nat.le_refl _, by unfold maxLen; omega, by rw [rowN_size], ?_⟩⟩
  rw [← rowN_list, List.take_of_length_le (by simp [rowN])]
/-- The letters a to c, as a likeness. -/
def R0 (a b : Nat) : Bool := (decide (97 ≤ a) && decide (a ≤ 99)) == (decide (97 ≤ b) && decide (b ≤ 99))
theorem alike_abc (a b : Nat) (ha : a < 256) (hb : b < 256) : alike [accAll (ofK 97 99)] a b = R0 a b := by
  unfold alike R0
  simp only [List.all_cons, List.all_nil, Bool.and_true]
  rw [hasI_acc _ (by omega) (by omega), hasI_acc _ (by omega) (by omega)]
  unfold ofK
  congr 2 <;> simp <;> omega
theorem abc_cnt : cntR (alike [accAll (ofK 97 99)]) 256 = 2 := by
  rw [cnt_congr alike_abc (Nat.le_refl _)]; decide +kernel
theorem abc_97 : clsR (alike [accAll (ofK 97 99)]) 97 = 1 := by
  rw [cls_congr alike_abc (by omega)]; decide +kernel
theorem abc_100 : clsR (alike [accAll (ofK 97 99)]) 100 = 0 := by
  rw [cls_congr alike_abc (by omega)]; decide +kernel
theorem listC_congr {R R' : Nat → Nat → Bool} {n : Nat} (h : ∀ a b, a < n → b < n → R a b = R' a b) : listC R n = listC R' n := by
  unfold listC
  exact List.map_congr_left fun i hi => by rw [cls_congr h (List.mem_range.1 hi)]
theorem abc_least : leastL (listC (alike [accAll (ofK 97 99)]) 256) 2 = [0, 97] := by
  rw [listC_congr alike_abc]; decide +kernel
theorem sets_one {w : World} {p : Nat} {f : Nat → Int} (h : w.heap[p]? = some (.cells (row4 f) 36 (0, 0))) (hp : p < w.heap.size) : SetsAt w (.slice (some ⟨p, 0, none⟩) 1 1) [f] := by
  refine ⟨_, 1, rfl, by simp, fun _ => ⟨p, 0, rfl, hp, fun i hi k hk => ?_⟩⟩
  obtain rfl : i = 0 := by simp at hi; omega
  have := cell4 h k hk
  simpa [getF] using this
set_option maxRecDepth 100000 in
set_option maxHeartbeats 4000000 in
theorem awake_any (w : World) : Calls Try.prog 8 #[] w fun e w' => e = .returned (.bool true) ∧ Below w.heap.size w w' := by
  go_enter Try.func8, Try.ntmps8
  go_wp2_with fail
  refine (refof_any 97 99 _).mono ?_
  rintro e w1 ⟨rfl, hb1⟩
  have H1 := Lib.hid abc_cnt
  have H2 := Lib.hid abc_97
  have H3 := Lib.hid abc_100
  have H4 := Lib.hid abc_least
  generalize accAll (ofK 97 99) = f at *
  go_wp2_with fail
  refine (split_any [f] _ _ (sets_one (heap_alloc_new _ _) (by simp))).mono ?_
  rintro e w2 ⟨rfl, hr2, hb2⟩
  have hB2 : Below w.heap.size w w2 := (hb1.alloc hb1.size _).trans (hb2.mono (by simp; have := hb1.size; omega))
  have hsz : w1.heap.size + 1 < w2.heap.size := by
    rcases Nat.lt_or_ge (w1.heap.size + 1) w2.heap.size with h | h
    · exact h
    · rw [Array.getElem?_eq_none (by simpa using h)] at hr2; cases hr2
  have HR2 := Lib.hid hr2
  rw [H1.out]
  clear hb1 hb2 hr2
  go_wp2_with fail
  refine (split_none none 0 _).mono ?_
  rintro e w3 ⟨rfl, hr3, hb3⟩
  have hB3 : Below w.heap.size w w3 := hB2.trans (hb3.mono hB2.size)
  have HR3 := Lib.hid hr3
  have HR23 := Lib.hid ((hb3.block _ (by simpa using hsz)).trans HR2.out)
  have hs3 : w2.heap.size < w3.heap.size := by
    rcases Nat.lt_or_ge w2.heap.size w3.heap.size with h | h
    · exact h
    · rw [Array.getElem?_eq_none h] at hr3; cases hr3
  rw [cnt_none 255]
  have hI := intsAt_of_row (row_of_split HR23.out) (by rw [listC_length]; omega)
  clear hr3 hb3 HR2
  go_wp2_with fail
  refine (least_any (listC (alike [f]) 256) _ 2 2 _ (by decide) (by simpa using hI)).mono ?_
  rintro e w4 ⟨v, rfl, hown4, hb4⟩
  rw [H4.out] at hown4
  have hB4 : Below w.heap.size w w4 := hB3.trans (hb4.mono hB3.size)
  have hR2 := (hb4.block (w1.heap.size + 1) (by omega)).trans (by simpa using HR23.out)
  have hR3 := (hb4.block w2.heap.size hs3).trans HR3.out
  have c1 := cell_of_row w4 _ 97 _ _ _ hR2
  have c2 := cell_of_row w4 _ 100 _ _ _ hR2
  have c3 := cell_of_row w4 _ 255 _ _ _ hR3
  rw [rowN_get _ (by omega), H2.out] at c1
  rw [rowN_get _ (by omega), H3.out] at c2
  rw [rowN_get _ (by omega), cls_none] at c3
  clear hR2 hR3 hb4 HR3 HR23 hB3 hI hB2
  go_wp2_with fail
  refine (ints_same [0, 97] (hown4.alloc _) (World.ownsRow_lit (base := 0) (e := 3) (size := 1) _ _ 2 (Nat.zero_le _) (by unfold maxLen; omega) rfl)).mono ?_
  rintro e w5 ⟨rfl, hb5⟩
  go_wp2
  go_ret
  exact ⟨rfl, (hB4.alloc hB4.size _).trans (hb5.mono (by simp; have := hB4.size; omega))⟩
end Go.Proofs.Ytjjnpobppmmgbaa
