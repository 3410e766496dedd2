/- The law's own first look (awake) answers true, whatever the memory. No conditions. -/
import Derived.Test.YthloafbgfjhicaaK
import Derived.Deep.RegionHeld3
namespace Go.Proofs.Ythloafbgfjhicaa
open Go.RowKit
theorem or_A (w : World) : Calls Try.prog 13 #[SV (byK (ofK 97 99)), SV (byK (ofK 120 120))] w fun e w' => e = .returned (SV sA) ∧ Below w.heap.size w w' := or_any _ _ w
theorem fold_F (w : World) : Calls Try.prog 19 #[SV (byK (ofK 97 97))] w fun e w' => e = .returned (SV sF) ∧ Below w.heap.size w w' := fold_any _ w
theorem not_N (w : World) : Calls Try.prog 17 #[SV (byK (ofK 0 255))] w fun e w' => e = .returned (SV sN) ∧ Below w.heap.size w w' := not_any _ w
theorem and_X (w : World) : Calls Try.prog 15 #[SV sA, SV (byK (ofK 99 130))] w fun e w' => e = .returned (SV sX) ∧ Below w.heap.size w w' := and_any _ _ w
theorem or_Y (w : World) : Calls Try.prog 13 #[SV (byK (ofK 99 99)), SV (byK (ofK 120 120))] w fun e w' => e = .returned (SV sY) ∧ Below w.heap.size w w' := or_any _ _ w
theorem row_cells {w : World} {base e size n : Nat} {v : Value} {xs : List Value} (h : w.ownsRow base e size v n xs) (hn : 0 < n) :
    ∃ g cap, v = .slice (some ⟨g, 0, none⟩) n cap ∧ base ≤ g ∧ g < w.heap.size ∧ n ≤ cap ∧ cap ≤ maxLen ∧ ∀ j u, xs[j]? = some u → w.cell? ⟨g, j, none⟩ = some u := by
  obtain ⟨hl, ⟨_, h0⟩ | ⟨g, cap, cur, hv, hg, hh, h1, h2, h3, h4⟩⟩ := h
  · omega
  · refine ⟨g, cap, hv, hg, ?_, h1, h2, fun j u hu => ?_⟩
    · rcases Nat.lt_or_ge g w.heap.size with h | h
      · exact h
      · rw [Array.getElem?_eq_none h] at hh; cases hh
    · rw [cell_of_row _ _ _ _ _ _ hh]
      have hj : j < n * size := by
        rcases Nat.lt_or_ge j (n * size) with h | h
        · exact h
        · rw [List.getElem?_eq_none (by omega)] at hu; cases hu
      rw [← h4, List.getElem?_take, if_pos hj] at hu
      simpa using hu
/-- What the last statement of awake reads, in every world that has turned nothing of it. -/
theorem keepW {w w1 : World} {p g h : Nat} (hp : w.heap[p]? = some (.cells (row4 sA) 24 (0, 0))) (hpl : p < w.heap.size) (hgl : g < w.heap.size) (hhl : h < w.heap.size)
    (g0 : w.cell? ⟨g, 0, none⟩ = some (.int .i64 97)) (g1 : w.cell? ⟨g, 1, none⟩ = some (.int .i64 99)) (h0 : w.cell? ⟨h, 0, none⟩ = some (.int .i64 65)) (h1 : w.cell? ⟨h, 1, none⟩ = some (.int .i64 97)) (hb : Below w.heap.size w w1) :
    Below w.heap.size w w1 ∧ w1.cell? ⟨p, 0, none⟩ = some (.int .u64 (sA 0)) ∧ w1.cell? ⟨p, 1, none⟩ = some (.int .u64 (sA 1)) ∧ w1.cell? ⟨p, 2, none⟩ = some (.int .u64 (sA 2)) ∧ w1.cell? ⟨p, 3, none⟩ = some (.int .u64 (sA 3)) ∧
    w1.cell? ⟨g, 0, none⟩ = some (.int .i64 97) ∧ w1.cell? ⟨g, 1, none⟩ = some (.int .i64 99) ∧ w1.cell? ⟨h, 0, none⟩ = some (.int .i64 65) ∧ w1.cell? ⟨h, 1, none⟩ = some (.int .i64 97) := by
  have hc1 := (hb.block p hpl).trans hp
  exact ⟨hb, cell4 hc1 0 (by omega), cell4 hc1 1 (by omega), cell4 hc1 2 (by omega), cell4 hc1 3 (by omega), (hb.cell (p := ⟨g, 0, none⟩) hgl).trans g0, (hb.cell (p := ⟨g, 1, none⟩) hgl).trans g1, (hb.cell (p := ⟨h, 0, none⟩) hhl).trans h0, (hb.cell (p := ⟨h, 1, none⟩) hhl).trans h1⟩
set_option maxRecDepth 100000 in
set_option maxHeartbeats 1000000 in
theorem awake_any (w : World) : Calls Try.prog 8 #[] w fun e w' => e = .returned (.bool true) ∧ Below w.heap.size w w' := by
  go_enter Try.func8, Try.ntmps8
  go_wp2_with fail
  refine (of_any 97 99 _).mono ?_
  rintro e w1 ⟨rfl, hb1⟩
  go_wp2_with fail
  refine (of_any 120 120 _).mono ?_
  rintro e w2 ⟨rfl, hb2⟩
  go_wp2_with fail
  refine (or_A _).mono ?_
  rintro e w3 ⟨rfl, hb3⟩
  have hB3 : Below w.heap.size w w3 := (hb1.trans (hb2.mono hb1.size)).trans (hb3.mono (Nat.le_trans hb1.size hb2.size))
  clear hb1 hb2 hb3
  go_wp2_with fail
  refine (runs_any sA _).mono ?_
  rintro e w5 ⟨v2, rfl, hown2, hb5⟩
  rw [aN, aS] at hown2
  obtain ⟨g, cap2, hv2, _, hgl, _, _, hc2⟩ := row_cells hown2 (by omega)
  have HP5 := Lib.hid ((hb5.block w3.heap.size (by simp)).trans (heap_alloc_new _ _))
  have hp5 : w3.heap.size < w5.heap.size := by have := hb5.size; simp at this; omega
  have hB5 : Below w.heap.size w w5 := (hB3.alloc hB3.size _).trans (hb5.mono (by simp; have := hB3.size; omega))
  have HG0 := Lib.hid (hc2 0 (.int .i64 97) rfl)
  have HG1 := Lib.hid (hc2 1 (.int .i64 99) rfl)
  rw [hv2]
  generalize w3.heap.size = p at *
  clear hown2 hc2 hv2 hB3 hb5
  go_wp2_with fail
  refine (of_any 97 97 _).mono ?_
  rintro e w6 ⟨rfl, hb6⟩
  go_wp2_with fail
  refine (fold_F _).mono ?_
  rintro e w7 ⟨rfl, hb7⟩
  go_wp2_with fail
  refine (list_any sF _).mono ?_
  rintro e w8 ⟨v3, rfl, hown3, hb8⟩
  rw [lF] at hown3
  obtain ⟨h, cap3, hv3, _, hhl, _, _, hc3⟩ := row_cells hown3 (by simp)
  have hb58 : Below w5.heap.size w5 w8 := (hb6.trans (hb7.mono hb6.size)).trans (hb8.mono (Nat.le_trans hb6.size hb7.size))
  have HP8 := Lib.hid ((hb58.block p hp5).trans HP5.out)
  have HG80 := Lib.hid ((hb58.cell (p := ⟨g, 0, none⟩) hgl).trans HG0.out)
  have HG81 := Lib.hid ((hb58.cell (p := ⟨g, 1, none⟩) hgl).trans HG1.out)
  have HH0 := Lib.hid (hc3 0 (.int .i64 65) rfl)
  have HH1 := Lib.hid (hc3 1 (.int .i64 97) rfl)
  have hB8 : Below w.heap.size w w8 := hB5.trans (hb58.mono hB5.size)
  have hp8 : p < w8.heap.size := Nat.lt_of_lt_of_le hp5 hb58.size
  have hg8 : g < w8.heap.size := Nat.lt_of_lt_of_le hgl hb58.size
  rw [hv3]
  clear hown3 hc3 hv3 hb6 hb7 hb8 HP5 HG0 HG1 hB5 hp5 hgl hb58
  go_wp2_with fail
  have e1 := a98
  have e2 := a100
  have e3 := am1
  have q1 : ∀ wx, Sem.run Try.prog (binOp .eql 24 (SV sN) (.agg #[.int .u64 0, .int .u64 0, .int .u64 0, .int .u64 0])) wx = .ok (.bool true) wx := fun wx => (eql24 sN (fun _ => 0) wx).trans (by rw [zN])
  have q2 : ∀ wx, Sem.run Try.prog (binOp .eql 24 (SV sX) (SV sY)) wx = .ok (.bool true) wx := fun wx => (eql24 sX sY wx).trans (by rw [xY])
  have q3 : ∀ wx, Sem.run Try.prog (binOp .eql 39 (.agg #[.int .i64 97, .int .i64 99]) (.agg #[.int .i64 97, .int .i64 99])) wx = .ok (.bool true) wx := fun wx => (eql39 97 99 97 99 wx).trans (by simp)
  have hg24 := guard24
  have hg39 := guard39
  go_region_held3 (fun w' => Below w8.heap.size w8 w' ∧ w'.cell? ⟨p, 0, none⟩ = some (.int .u64 (sA 0)) ∧ w'.cell? ⟨p, 1, none⟩ = some (.int .u64 (sA 1)) ∧ w'.cell? ⟨p, 2, none⟩ = some (.int .u64 (sA 2)) ∧ w'.cell? ⟨p, 3, none⟩ = some (.int .u64 (sA 3)) ∧
      w'.cell? ⟨g, 0, none⟩ = some (.int .i64 97) ∧ w'.cell? ⟨g, 1, none⟩ = some (.int .i64 99) ∧ w'.cell? ⟨h, 0, none⟩ = some (.int .i64 65) ∧ w'.cell? ⟨h, 1, none⟩ = some (.int .i64 97))
    ((refine keepW HP8.out hp8 hg8 hhl HG80.out HG81.out HH0.out HH1.out ?_; first | assumption | exact (Below.refl _ _).drew))
    (first
      | (go_at_call 9; go_split_ands; refine (fromB (w := w8) (has_any sA _ _) ?_).mono ?_; assumption; rintro e wz ⟨rfl, hBz⟩)
      | (go_at_call 11; go_split_ands; refine (fromB (w := w8) (of_any _ _ _) ?_).mono ?_; assumption; rintro e wz ⟨rfl, hBz⟩)
      | (go_at_call 17; go_split_ands; refine (fromB (w := w8) (not_N _) ?_).mono ?_; assumption; rintro e wz ⟨rfl, hBz⟩)
      | (go_at_call 15; go_split_ands; refine (fromB (w := w8) (and_X _) ?_).mono ?_; assumption; rintro e wz ⟨rfl, hBz⟩)
      | (go_at_call 13; go_split_ands; refine (fromB (w := w8) (or_Y _) ?_).mono ?_; assumption; rintro e wz ⟨rfl, hBz⟩))
  go_wp2
  go_ret
  exact ⟨rfl, hB8.trans (hBz.mono hB8.size)⟩
end Go.Proofs.Ythloafbgfjhicaa
