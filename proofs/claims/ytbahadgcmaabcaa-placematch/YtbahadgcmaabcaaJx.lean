/- The document's of: a place. -/
import Derived.Test.YtbahadgcmaabcaaJv
namespace Go.Proofs.Ytbahadgcmaabcaa
open Go.RowKit Go
theorem one_E {w W : World} {s : Nat → Int} {g1 g2 g3 g4 : Nat} (h1 : W.heap[g1]? = some (.cells #[.int .u64 (s 0), .int .u64 (s 1), .int .u64 (s 2), .int .u64 (s 3)] 24 (0, 0))) (h2 : W.heap[g2]? = some (.cells #[.int .i64 0] 3 (0, 0))) (h3 : W.heap[g3]? = some (.cells #[.int .i64 0] 3 (0, 0))) (h4 : W.heap[g4]? = some (.cells #[.slice none 0 0] 37 (0, 0))) (hb : Below w.heap.size w W) :
    PlE w (Pl.one s) (.returned (plV (.slice (some ⟨g1, 0, none⟩) 1 1) (.slice (some ⟨g2, 0, none⟩) 1 1) (.slice (some ⟨g3, 0, none⟩) 1 1) (.slice (some ⟨g4, 0, none⟩) 1 1) false)) W := by
  have il : ∀ g : Nat, W.heap[g]? = some (.cells #[.int .i64 0] 3 (0, 0)) → IL W (.slice (some ⟨g, 0, none⟩) 1 1) [0] := fun g h => ⟨_, _, rfl, Nat.le_refl _, by unfold maxLen; omega, fun h => by (cases h), fun _ => ⟨g, 0, _, _, rfl, h, fun i hi => by
    obtain rfl : i = 0 := by simp at hi; omega
    exact cell_of_row W g 0 _ _ _ h⟩⟩
  refine ⟨_, rfl, ⟨_, _, _, _, [0], [0], fun _ => .slice none 0 0, fun _ => [], rfl, ⟨?_, il _ h2, isL_one 0 fun _ => rfl, il _ h3, isL_one 0 fun _ => rfl, ?_, fun i _ => ⟨il_nil _, isL_nil fun _ => rfl⟩, Pl.ok_one s⟩⟩, hb⟩
  · refine ⟨_, _, rfl, Nat.le_refl _, by unfold maxLen; omega, (fun h => by cases h), fun _ => ⟨g1, 0, rfl, ⟨lt_heap h1, _, _, h1⟩, fun j u hu => ?_⟩⟩
    have e : flatW (Pl.one s).set 1 = [.int .u64 (s 0), .int .u64 (s 1), .int .u64 (s 2), .int .u64 (s 3)] := by simp [flatW, Pl.one]
    rw [show (Pl.one s).n = 1 from rfl, e] at hu
    rw [Nat.zero_add]
    have hj : j < 4 := by have := (List.getElem?_eq_some_iff.1 hu).1; simpa using this
    have hj' : j = 0 ∨ j = 1 ∨ j = 2 ∨ j = 3 := by omega
    rcases hj' with rfl | rfl | rfl | rfl <;> (simp at hu; subst hu; exact cell_of_row W g1 _ _ _ _ h1)
  · exact ⟨_, _, rfl, Nat.le_refl _, by unfold maxLen; omega, (fun h => by cases h), fun _ => ⟨g4, 0, rfl, ⟨lt_heap h4, _, _, h4⟩, fun i hi => by
      obtain rfl : i = 0 := by simp [Pl.one] at hi; omega
      exact cell_of_row W g4 0 _ _ _ h4⟩⟩
theorem stay {w : World} (o : Obj) {k : Nat} {x : Obj} (h : w.heap[k]? = some x) : (w.alloc o).heap[k]? = some x := ((alloc_below w o).block _ (lt_heap h)).trans h
theorem fresh (w : World) (o : Obj) {k : Nat} (e : w.heap.size = k) : (w.alloc o).heap[k]? = some o := e ▸ heap_alloc_new w o
theorem heap6 (w : World) (o1 o2 o3 o4 o5 o6 : Obj) : ∀ W, W = (((((w.alloc o1).alloc o2).alloc o3).alloc o4).alloc o5).alloc o6 →
    W.heap[w.heap.size + 1]? = some o2 ∧ W.heap[w.heap.size + 1 + 1]? = some o3 ∧ W.heap[w.heap.size + 1 + 1 + 1]? = some o4 ∧ W.heap[w.heap.size + 1 + 1 + 1 + 1]? = some o5 ∧ W.heap[w.heap.size + 1 + 1 + 1 + 1 + 1]? = some o6 ∧ Below w.heap.size w W := by
  intro W hW
  have hb : Below w.heap.size w W := by
    rw [hW]
    exact (((((alloc_below w o1).alloc (by simp) o2).alloc (by simp; omega) o3).alloc (by simp; omega) o4).alloc (by simp; omega) o5).alloc (by simp; omega) o6
  refine ⟨?_, ?_, ?_, ?_, ?_, hb⟩ <;> rw [hW]
  · exact stay _ (stay _ (stay _ (stay _ (fresh _ _ (by simp)))))
  · exact stay _ (stay _ (stay _ (fresh _ _ (by simp))))
  · exact stay _ (stay _ (fresh _ _ (by simp)))
  · exact stay _ (fresh _ _ (by simp))
  · exact fresh _ _ (by simp)
set_option maxRecDepth 100000 in
set_option maxHeartbeats 4000000 in
theorem of_2 (s : Nat → Int) (lo hi : Int) (a : Option Addr) (n cap : Nat) (w : World) : Calls Try.prog 30 #[nodeV 2 s lo hi (.slice a n cap)] w (PlE w (Pl.one s)) := by
  have HH := Lib.hid (heap6 w)
  go_enter Try.func30, Try.ntmps30
  go_wp2
  obtain ⟨W, hW⟩ : ∃ W, W = ((((((w.alloc (.cells (row8 2 s lo hi (.slice a n cap)) 27)).alloc (.cells (pl5 (.slice (some ⟨w.heap.size + 1 + 1, 0, none⟩) 1 1) (.slice (some ⟨w.heap.size + 1 + 1 + 1, 0, none⟩) 1 1) (.slice (some ⟨w.heap.size + 1 + 1 + 1 + 1, 0, none⟩) 1 1) (.slice (some ⟨w.heap.size + 1 + 1 + 1 + 1 + 1, 0, none⟩) 1 1) false) 40)).alloc (.cells #[.int .u64 (s 0), .int .u64 (s 1), .int .u64 (s 2), .int .u64 (s 3)] 24)).alloc (.cells #[.int .i64 0] 3)).alloc (.cells #[.int .i64 0] 3)).alloc (.cells #[.slice none 0 0] 37)) := ⟨_, rfl⟩
  obtain ⟨h1, h2, h3, h4, h5, hb⟩ := HH.out _ _ _ _ _ _ W hW
  rw [← hW]
  exact bodyPost_ret (ret5c Try.results30 rfl h1) rfl (one_E h2 h3 h4 h5 hb)
end Go.Proofs.Ytbahadgcmaabcaa
