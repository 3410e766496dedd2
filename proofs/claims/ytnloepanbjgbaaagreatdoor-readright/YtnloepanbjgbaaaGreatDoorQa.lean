/- The reader of texts: where it stands in memory; contracts of the landed code's next, later, wrong, skip, isDigit, isLetter, isVisible. -/
import Derived.Test.YtnloepanbjgbaaaGreatDoorT
import Derived.StillTailTactics
namespace Go.Proofs.YtnloepanbjgbaaaGreatDoor
open Go.RowKit
def digC (c : Int) : Bool := decide (48 ≤ c) && decide (c ≤ 57)
def letC (c : Int) : Bool := (decide (97 ≤ c) && decide (c ≤ 122)) || (decide (65 ≤ c) && decide (c ≤ 90))
def visC (c : Int) : Bool := decide (33 ≤ c) && decide (c ≤ 126)
theorem digC_yes {c : Int} (h : digC c = true) : 48 ≤ c ∧ c ≤ 57 := by simpa [digC] using h
theorem digC_no {c : Int} (h : digC c = false) : c < 48 ∨ 57 < c := by
  by_cases h1 : 48 ≤ c
  · by_cases h2 : c ≤ 57
    · simp [digC, h1, h2] at h
    · omega
  · omega
set_option maxRecDepth 100000 in
theorem isDigit_any (c : Int) (w : World) : Calls Tryz.prog 32 #[.int .i64 c] w fun e w' => e = .returned (.bool (digC c)) ∧ w = w' := by
  by_cases h1 : 48 ≤ c
  · by_cases h2 : c ≤ 57
    · have HX := Lib.hid (show digC c = true by simp [digC, h1, h2])
      go_enter Tryz.func32, Tryz.ntmps32
      go_wp2
      go_ret
      exact ⟨ret_bool HX.out.symm, rfl⟩
    · have HX := Lib.hid (show digC c = false by simp [digC, h2])
      go_enter Tryz.func32, Tryz.ntmps32
      go_wp2
      go_ret
      exact ⟨ret_bool HX.out.symm, rfl⟩
  · have HX := Lib.hid (show digC c = false by simp [digC, h1])
    go_enter Tryz.func32, Tryz.ntmps32
    go_wp2
    go_ret
    exact ⟨ret_bool HX.out.symm, rfl⟩
set_option maxRecDepth 100000 in
theorem isVisible_any (c : Int) (w : World) : Calls Tryz.prog 127 #[.int .i64 c] w fun e w' => e = .returned (.bool (visC c)) ∧ w = w' := by
  by_cases h1 : 33 ≤ c
  · by_cases h2 : c ≤ 126
    · have HX := Lib.hid (show visC c = true by simp [visC, h1, h2])
      go_enter Tryz.func127, Tryz.ntmps127
      go_wp2
      go_ret
      exact ⟨ret_bool HX.out.symm, rfl⟩
    · have HX := Lib.hid (show visC c = false by simp [visC, h2])
      go_enter Tryz.func127, Tryz.ntmps127
      go_wp2
      go_ret
      exact ⟨ret_bool HX.out.symm, rfl⟩
  · have HX := Lib.hid (show visC c = false by simp [visC, h1])
    go_enter Tryz.func127, Tryz.ntmps127
    go_wp2
    go_ret
    exact ⟨ret_bool HX.out.symm, rfl⟩
set_option maxRecDepth 100000 in
theorem isLetter_any (c : Int) (w : World) : Calls Tryz.prog 33 #[.int .i64 c] w fun e w' => e = .returned (.bool (letC c)) ∧ w = w' := by
  obtain ⟨h, hh⟩ : ∃ b, b = letC c := ⟨_, rfl⟩
  rw [← hh]
  by_cases h1 : 97 ≤ c
  · by_cases h2 : c ≤ 122
    · obtain rfl : h = true := by simp [hh, letC, h1, h2]
      clear hh
      go_enter Tryz.func33, Tryz.ntmps33
      go_wp2
      go_ret
      exact ⟨rfl, rfl⟩
    · obtain rfl : h = false := by rw [hh]; simp [letC]; omega
      have h3 : 65 ≤ c := by omega
      have h4 : ¬ c ≤ 90 := by omega
      clear hh
      go_enter Tryz.func33, Tryz.ntmps33
      go_wp2
      go_ret
      exact ⟨rfl, rfl⟩
  · by_cases h3 : 65 ≤ c
    · by_cases h4 : c ≤ 90
      · obtain rfl : h = true := by simp [hh, letC, h3, h4]
        clear hh
        go_enter Tryz.func33, Tryz.ntmps33
        go_wp2
        go_ret
        exact ⟨rfl, rfl⟩
      · obtain rfl : h = false := by rw [hh]; simp [letC]; omega
        clear hh
        go_enter Tryz.func33, Tryz.ntmps33
        go_wp2
        go_ret
        exact ⟨rfl, rfl⟩
    · obtain rfl : h = false := by rw [hh]; simp [letC]; omega
      clear hh
      go_enter Tryz.func33, Tryz.ntmps33
      go_wp2
      go_ret
      exact ⟨rfl, rfl⟩
theorem wrap_u8 (b : UInt8) : wrap64 (b.toNat : Int) = (b.toNat : Int) := IntWalk.wrap64_in _ (by have := b.toNat_lt; omega)
/-- The byte at a place; -1: there is none. -/
def nx (S : ByteArray) (i : Nat) : Int := if h : i < S.size then (S[i].toNat : Int) else -1
theorem nx_in {S : ByteArray} {i : Nat} (h : i < S.size) : nx S i = (S[i].toNat : Int) := by unfold nx; rw [dif_pos h]
theorem nx_out {S : ByteArray} {i : Nat} (h : ¬ i < S.size) : nx S i = -1 := by unfold nx; rw [dif_neg h]
theorem nx_ge {S : ByteArray} {i : Nat} : -1 ≤ nx S i ∧ nx S i < 256 := by
  by_cases h : i < S.size
  · rw [nx_in h]; have := S[i].toNat_lt; omega
  · rw [nx_out h]; omega
theorem nx_lt {S : ByteArray} {i : Nat} (h : nx S i ≠ -1) : i < S.size := by
  by_cases q : i < S.size
  · exact q
  · exact absurd (nx_out q) h
/-- What a reader holds all the time: the text, the definitions, the option. -/
structure Cx where
  S : ByteArray
  a : Option Addr
  n : Nat
  cap : Nat
  fold : Bool
abbrev rdRow (C : Cx) (i deep cop : Int) : Array Value := #[.string C.S, .slice C.a C.n C.cap, .bool C.fold, .int .i64 i, .int .i64 deep, .int .i64 cop]
/-- The reader stands in memory, at a place of its text. -/
structure Rd (w : World) (p : Nat) (C : Cx) (i deep cop : Nat) : Prop where
  box : w.heap[p]? = some (.cells (rdRow C i deep cop) 56 (0, 0))
  sz : C.S.size ≤ 10000
  le : i ≤ C.S.size
  dp : deep ≤ 20
  cp : cop ≤ 2000
theorem Rd.lt {w : World} {p : Nat} {C : Cx} {i deep cop : Nat} (h : Rd w p C i deep cop) : p < w.heap.size := (Array.getElem?_eq_some_iff.1 h.box).1
theorem Rd.cells {w : World} {p : Nat} {C : Cx} {i deep cop : Nat} (h : Rd w p C i deep cop) :
    w.cell? ⟨p, 0, none⟩ = some (.string C.S) ∧ w.cell? ⟨p, 1, none⟩ = some (.slice C.a C.n C.cap) ∧ w.cell? ⟨p, 2, none⟩ = some (.bool C.fold) ∧ w.cell? ⟨p, 3, none⟩ = some (.int .i64 i) ∧ w.cell? ⟨p, 4, none⟩ = some (.int .i64 deep) ∧ w.cell? ⟨p, 5, none⟩ = some (.int .i64 cop) :=
  ⟨cell_of_row w p 0 _ _ _ h.box, cell_of_row w p 1 _ _ _ h.box, cell_of_row w p 2 _ _ _ h.box, cell_of_row w p 3 _ _ _ h.box, cell_of_row w p 4 _ _ _ h.box, cell_of_row w p 5 _ _ _ h.box⟩
theorem Rd.free {w : World} {p : Nat} {C : Cx} {i deep cop : Nat} (h : Rd w p C i deep cop) (c : Nat) : w.frozen? ⟨p, c, none⟩ = false := frozen_of_row _ _ c _ _ h.box
/-- The reader steps on. -/
theorem Rd.step {w : World} {p : Nat} {C : Cx} {i deep cop : Nat} (h : Rd w p C i deep cop) {j : Nat} (hj : j ≤ C.S.size) {v : Int} (hv : v = (j : Int)) : Rd (w.setCell ⟨p, 3, none⟩ (.int .i64 v)) p C j deep cop ∧ w.grownBy (w.setCell ⟨p, 3, none⟩ (.int .i64 v)) (some p) := by
  have h1 := heap_setCell_same w p 3 _ _ (.int .i64 v) h.box
  refine ⟨⟨by rw [h1, hv]; simp, h.sz, hj, h.dp, h.cp⟩, ⟨rfl, rfl, rfl, by simp, fun k _ hk => Below.heap_setCell _ _ _ _ fun e => hk (by rw [e])⟩⟩
theorem Rd.deeper {w : World} {p : Nat} {C : Cx} {i deep cop : Nat} (h : Rd w p C i deep cop) {j : Nat} (hj : j ≤ 20) {v : Int} (hv : v = (j : Int)) : Rd (w.setCell ⟨p, 4, none⟩ (.int .i64 v)) p C i j cop ∧ w.grownBy (w.setCell ⟨p, 4, none⟩ (.int .i64 v)) (some p) := by
  have h1 := heap_setCell_same w p 4 _ _ (.int .i64 v) h.box
  refine ⟨⟨by rw [h1, hv]; simp, h.sz, h.le, hj, h.cp⟩, ⟨rfl, rfl, rfl, by simp, fun k _ hk => Below.heap_setCell _ _ _ _ fun e => hk (by rw [e])⟩⟩
theorem Rd.more {w : World} {p : Nat} {C : Cx} {i deep cop : Nat} (h : Rd w p C i deep cop) {j : Nat} (hj : j ≤ 2000) {v : Int} (hv : v = (j : Int)) : Rd (w.setCell ⟨p, 5, none⟩ (.int .i64 v)) p C i deep j ∧ w.grownBy (w.setCell ⟨p, 5, none⟩ (.int .i64 v)) (some p) := by
  have h1 := heap_setCell_same w p 5 _ _ (.int .i64 v) h.box
  refine ⟨⟨by rw [h1, hv]; simp, h.sz, h.le, h.dp, hj⟩, ⟨rfl, rfl, rfl, by simp, fun k _ hk => Below.heap_setCell _ _ _ _ fun e => hk (by rw [e])⟩⟩
theorem Rd.below {w w' : World} {p : Nat} {C : Cx} {i deep cop : Nat} (h : Rd w p C i deep cop) (hb : Below w.heap.size w w') : Rd w' p C i deep cop := ⟨(hb.block p h.lt).trans h.box, h.sz, h.le, h.dp, h.cp⟩
abbrev rp (p : Nat) : Value := .pointer (some ⟨p, 0, none⟩)
set_option maxRecDepth 100000 in
set_option maxHeartbeats 1000000 in
theorem later_any (w : World) (p : Nat) (C : Cx) (i deep cop k : Nat) (h : Rd w p C i deep cop) (hk : k ≤ 1) : Calls Tryz.prog 66 #[rp p, .int .i64 k] w fun e w' => e = .returned (.int .i64 (nx C.S (i + k))) ∧ w = w' := by
  obtain ⟨c0, c1, c2, c3, c4, c5⟩ := h.cells
  have hs := h.sz
  have hi := h.le
  clear h
  by_cases hlt : i + k < C.S.size
  · have HX := Lib.hid (nx_in hlt)
    have hl' : (i : Int) + (k : Int) < (C.S.size : Int) := by omega
    go_enter Tryz.func66, Tryz.ntmps66
    go_wp2
    go_ret
    exact ⟨ret_int ((wrap_u8 _).trans HX.out.symm), rfl⟩
  · have HX := Lib.hid (nx_out hlt)
    have hl' : ¬ (i : Int) + (k : Int) < (C.S.size : Int) := by omega
    go_enter Tryz.func66, Tryz.ntmps66
    go_wp2
    go_ret
    exact ⟨ret_int HX.out.symm, rfl⟩
set_option maxRecDepth 100000 in
set_option maxHeartbeats 1000000 in
theorem next_any (w : World) (p : Nat) (C : Cx) (i deep cop : Nat) (h : Rd w p C i deep cop) : Calls Tryz.prog 44 #[rp p] w fun e w' => e = .returned (.int .i64 (nx C.S i)) ∧ w = w' := by
  have H := Lib.hid (later_any w p C i deep cop 0 h (by omega))
  clear h
  obtain ⟨c, hc⟩ : ∃ c, c = nx C.S i := ⟨_, rfl⟩
  rw [← hc]
  have HC := Lib.hid hc
  clear hc
  go_enter Tryz.func44, Tryz.ntmps44
  go_wp2_with fail
  refine H.out.mono ?_
  rintro e w' ⟨rfl, rfl⟩
  rw [Nat.add_zero, ← HC.out]
  go_wp2
  go_ret
  exact ⟨rfl, rfl⟩
/-- An error, as it is passed up: its number, and its place. -/
abbrev errV (e : Int) (i : Nat) : Value := .iface 86 (.agg #[.iface 84 (.int .i64 e), .int .i64 i])
set_option maxRecDepth 100000 in
set_option maxHeartbeats 1000000 in
theorem wrong_any (x : Int) (w : World) (p : Nat) (C : Cx) (i deep cop : Nat) (h : Rd w p C i deep cop) : Calls Tryz.prog 45 #[rp p, .int .i64 x] w fun e w' => e = .returned (errV x i) ∧ w = w' := by
  obtain ⟨c0, c1, c2, c3, c4, c5⟩ := h.cells
  clear h
  go_enter Tryz.func45, Tryz.ntmps45
  go_wp2
  go_ret
  exact ⟨rfl, rfl⟩
set_option maxRecDepth 100000 in
set_option maxHeartbeats 1000000 in
theorem skip_yes (c : Int) (w : World) (p : Nat) (C : Cx) (i deep cop : Nat) (h : Rd w p C i deep cop) (hc : nx C.S i = c) (h0 : 0 ≤ c) : Calls Tryz.prog 121 #[rp p, .int .i64 c] w fun e w' => e = .returned .nilIface ∧ Rd w' p C (i + 1) deep cop ∧ w.grownBy w' (some p) := by
  obtain ⟨c0, c1, c2, c3, c4, c5⟩ := h.cells
  have hlt := nx_lt (S := C.S) (i := i) (by omega)
  have HN := Lib.hid (next_any w p C i deep cop h)
  have HS := Lib.hid (h.step (j := i + 1) (by omega) (v := (i : Int) + 1) (by omega))
  have hf := h.free 3
  have hz := h.sz
  have HC := Lib.hid hc
  clear h hc
  go_enter Tryz.func121, Tryz.ntmps121
  go_wp2_with fail
  refine HN.out.mono ?_
  rintro e w' ⟨rfl, rfl⟩
  rw [HC.out]
  go_wp2
  go_ret
  exact ⟨rfl, HS.out.1, HS.out.2⟩
set_option maxRecDepth 100000 in
set_option maxHeartbeats 1000000 in
theorem skip_no (c : Int) (w : World) (p : Nat) (C : Cx) (i deep cop : Nat) (h : Rd w p C i deep cop) (hc : nx C.S i ≠ c) : Calls Tryz.prog 121 #[rp p, .int .i64 c] w fun e w' => e = .returned (errV 20 i) ∧ w = w' := by
  have HN := Lib.hid (next_any w p C i deep cop h)
  have HW := Lib.hid (wrong_any 20 w p C i deep cop h)
  obtain ⟨x, hx⟩ : ∃ x, x = nx C.S i := ⟨_, rfl⟩
  rw [← hx] at hc HN
  clear h hx
  go_enter Tryz.func121, Tryz.ntmps121
  go_wp2_with fail
  refine HN.out.mono ?_
  rintro e w' ⟨rfl, rfl⟩
  go_wp2_with fail
  refine HW.out.mono ?_
  rintro e w' ⟨rfl, rfl⟩
  go_wp2
  go_ret
  exact ⟨rfl, rfl⟩
end Go.Proofs.YtnloepanbjgbaaaGreatDoor
