/- Contracts of the document's own same and Split of layer 2. -/
import Derived.Test.YtjjnpobppmmgbaaC
namespace Go.Proofs.Ytjjnpobppmmgbaa
open Go.RowKit
theorem keepF {w w1 : World} {g o : Nat} {f : Nat → Int} (hg : g < w.heap.size) (c0 : w.cell? ⟨g, o, none⟩ = some (.int .u64 (f 0))) (c1 : w.cell? ⟨g, o + 1, none⟩ = some (.int .u64 (f 1)))
    (c2 : w.cell? ⟨g, o + 2, none⟩ = some (.int .u64 (f 2))) (c3 : w.cell? ⟨g, o + 3, none⟩ = some (.int .u64 (f 3))) (h : Below w.heap.size w w1) :
    Below w.heap.size w w1 ∧ w1.cell? ⟨g, o, none⟩ = some (.int .u64 (f 0)) ∧ w1.cell? ⟨g, o + 1, none⟩ = some (.int .u64 (f 1)) ∧ w1.cell? ⟨g, o + 2, none⟩ = some (.int .u64 (f 2)) ∧ w1.cell? ⟨g, o + 3, none⟩ = some (.int .u64 (f 3)) :=
  ⟨h, (h.cell (p := ⟨g, o, none⟩) hg).trans c0, (h.cell (p := ⟨g, o + 1, none⟩) hg).trans c1, (h.cell (p := ⟨g, o + 2, none⟩) hg).trans c2, (h.cell (p := ⟨g, o + 3, none⟩) hg).trans c3⟩
set_option maxHeartbeats 1000000 in
theorem same_none (ad : Option Addr) (cap : Nat) (a b : Int) (w : World) : Calls Try.prog 22 #[.slice ad 0 cap, .int .i64 a, .int .i64 b] w fun e w' => e = .returned (.bool true) ∧ Below w.heap.size w w' := by
  go_enter Try.func22, Try.ntmps22
  go_wp2
  refine wp_loop_rounds 1 ?_
  rw [rounds_succ]
  go_wp2
  go_ret
  exact ⟨rfl, Below.refl _ _⟩
theorem alike_yes {fs : List (Nat → Int)} {i a b : Nat} (h : i < fs.length) (hx : (hasI (getF fs i) a == hasI (getF fs i) b) = true) (hi : alike (fs.take i) a b = true) : alike (fs.take (i + 1)) a b = true := by
  rw [alike_take h, andR, hi, hx]; rfl
theorem alike_no {fs : List (Nat → Int)} {i a b : Nat} (h : i < fs.length) (hx : (hasI (getF fs i) a == hasI (getF fs i) b) = false) : alike fs a b = false := by
  unfold alike
  rw [List.all_eq_false]
  refine ⟨fs[i], List.getElem_mem h, ?_⟩
  unfold getF at hx
  rw [List.getD_eq_getElem?_getD, List.getElem?_eq_getElem h] at hx
  simpa using hx
set_option maxRecDepth 100000 in
set_option maxHeartbeats 2000000 in
theorem same_some (fs : List (Nat → Int)) (n g off cap : Nat) (a b : Nat) (w : World) (hn : Hid (fs.length = n)) (hl : n ≤ 1000) (hg : g < w.heap.size)
    (hc : Hid (∀ i, i < n → ∀ k, k < 4 → w.cell? ⟨g, off + i * 4 + k, none⟩ = some (.int .u64 (getF fs i k)))) :
    Calls Try.prog 22 #[.slice (some ⟨g, off, none⟩) n cap, .int .i64 a, .int .i64 b] w fun e w' => e = .returned (.bool (alike fs a b)) ∧ Below w.heap.size w w' := by
  go_enter Try.func22, Try.ntmps22
  go_wp2
  go_loopw [7] (fun i wr => ∃ j : Nat, j ≤ n ∧ i = .int .i64 j ∧ Hid (alike (fs.take j) a b = true) ∧ Below w.heap.size w wr) (fun i _ => n - (intOf i).toNat)
  case atStart => exact ⟨0, by omega, rfl, rfl, Below.refl _ _⟩
  case round =>
    obtain ⟨j, hj, rfl, HA, hb⟩ := hrel
    by_cases hlt : j < n
    · have c0 : wr.cell? ⟨g, off + j * 4, none⟩ = _ := (hb.cell (p := ⟨g, off + j * 4, none⟩) hg).trans (hc.out j hlt 0 (by omega))
      have c1 := (hb.cell (p := ⟨g, off + j * 4 + 1, none⟩) hg).trans (hc.out j hlt 1 (by omega))
      have c2 := (hb.cell (p := ⟨g, off + j * 4 + 2, none⟩) hg).trans (hc.out j hlt 2 (by omega))
      have c3 := (hb.cell (p := ⟨g, off + j * 4 + 3, none⟩) hg).trans (hc.out j hlt 3 (by omega))
      have hgr : g < wr.heap.size := Nat.lt_of_lt_of_le hg hb.size
      have HN := Lib.hid (show j < fs.length by rw [hn.out]; exact hlt)
      have i1 : (j : Int) < (n : Int) := by omega
      cases hx : (hasI (getF fs j) a == hasI (getF fs j) b)
      · have HE := Lib.hid (alike_no HN.out hx)
        have hne : (!(hasI (getF fs j) (a : Int) == hasI (getF fs j) (b : Int))) = true := by rw [hx]; rfl
        clear hx
        generalize getF fs j = f at *
        go_wp2_with fail
        go_region_held3 (fun w' => Below wr.heap.size wr w' ∧ w'.cell? ⟨g, off + j * 4, none⟩ = some (.int .u64 (f 0)) ∧ w'.cell? ⟨g, off + j * 4 + 1, none⟩ = some (.int .u64 (f 1)) ∧ w'.cell? ⟨g, off + j * 4 + 2, none⟩ = some (.int .u64 (f 2)) ∧ w'.cell? ⟨g, off + j * 4 + 3, none⟩ = some (.int .u64 (f 3)))
          ((refine keepF hgr c0 c1 c2 c3 ?_; first | assumption | exact (Below.refl _ _).drew))
          ((go_at_call 16; go_split_ands; refine (fromB (w := wr) (refhas_any f _ _) ?_).mono ?_; assumption; rintro e wz ⟨rfl, hBz⟩))
        go_wp2
        go_ret
        exact ⟨ret_bool HE.out.symm, hb.trans (hBz.mono hb.size)⟩
      · have HE := Lib.hid (alike_yes HN.out hx HA.out)
        have hne : (!(hasI (getF fs j) (a : Int) == hasI (getF fs j) (b : Int))) = false := by rw [hx]; rfl
        clear hx
        generalize getF fs j = f at *
        go_wp2_with fail
        go_region_held3 (fun w' => Below wr.heap.size wr w' ∧ w'.cell? ⟨g, off + j * 4, none⟩ = some (.int .u64 (f 0)) ∧ w'.cell? ⟨g, off + j * 4 + 1, none⟩ = some (.int .u64 (f 1)) ∧ w'.cell? ⟨g, off + j * 4 + 2, none⟩ = some (.int .u64 (f 2)) ∧ w'.cell? ⟨g, off + j * 4 + 3, none⟩ = some (.int .u64 (f 3)))
          ((refine keepF hgr c0 c1 c2 c3 ?_; first | assumption | exact (Below.refl _ _).drew))
          ((go_at_call 16; go_split_ands; refine (fromB (w := wr) (refhas_any f _ _) ?_).mono ?_; assumption; rintro e wz ⟨rfl, hBz⟩))
        go_wp2
        go_roundw
        case rel => exact ⟨j + 1, by omega, by go_num, HE, hb.trans (hBz.mono hb.size)⟩
        case measure => simp [intOf]; omega
    · obtain rfl : n = j := by omega
      have HE := Lib.hid (show alike fs a b = true by rw [← alike_all, hn.out]; exact HA.out)
      go_wp2
      go_ret
      exact ⟨ret_bool HE.out.symm, hb⟩
theorem same_any (fs : List (Nat → Int)) (v : Value) (a b : Nat) (w : World) (h : SetsAt w v fs) :
    Calls Try.prog 22 #[v, .int .i64 a, .int .i64 b] w fun e w' => e = .returned (.bool (alike fs a b)) ∧ Below w.heap.size w w' := by
  obtain ⟨ad, cap, rfl, hl, hc⟩ := h
  by_cases hp : 0 < fs.length
  · obtain ⟨g, off, rfl, hg, hc⟩ := hc hp
    exact same_some fs fs.length g off cap a b w (Lib.hid rfl) hl hg (Lib.hid hc)
  · obtain rfl : fs = [] := List.eq_nil_of_length_eq_zero (by omega)
    exact same_none ad cap a b w
end Go.Proofs.Ytjjnpobppmmgbaa
