/- Contracts of the landed code's couple.leave and Same, for any patterns. -/
import Derived.Test.YtnfchlkdppblfaaDoorX
namespace Go.Proofs.YtnfchlkdppblfaaDoor
open Go.RowKit
/-- Are two patterns the same, with all in them? -/
def sameT : Tr → Tr → Bool
  | .node k s lo hi a n cap kid, u => likeB (.node k s lo hi a n cap kid) u && allTo (fun i => sameT (kid i) (u.kid i)) n
  | .nul, u => likeB .nul u
theorem sameT_eq (t u : Tr) : sameT t u = (likeB t u && allTo (fun i => sameT (t.kid i) (u.kid i)) t.n) := by
  cases t with
  | node => rfl
  | nul => simp [sameT, allTo, Tr.n]
end Go.Proofs.YtnfchlkdppblfaaDoor
/- Contract of the landed code's Same, for any patterns: the walk. -/
namespace Go.Proofs.YtnfchlkdppblfaaDoor
open Go.RowKit
theorem like_n {t u : Tr} (h : likeB t u = true) : u.n = t.n := by
  simp only [likeB, Bool.and_eq_true, decide_eq_true_eq] at h; exact h.2.2.2.2.symm
theorem lives_at {w : World} {B : Nat} {t : Tr} (h : Lives w B t) : t.n ≤ t.cap ∧ (0 < t.n → ∃ g off, t.a = some ⟨g, off, none⟩ ∧ g < B ∧ ∀ i, i < t.n → At8 w g (off + i * 8) (t.kid i)) ∧ ∀ i, i < t.n → Lives w B (t.kid i) := by
  cases t with
  | nul => exact h.elim
  | node => exact ⟨h.2.1, h.2.2.2.1, h.2.2.2.2⟩
theorem heap_alloc5_c (w : World) (A B C D E : Obj) : (((((w.alloc A).alloc B).alloc C).alloc D).alloc E).heap[w.heap.size + 2]? = some C := by
  rw [Below.heap_alloc _ _ _ (by simp), Below.heap_alloc _ _ _ (by simp)]; exact heap_alloc3_c _ _ _ _
theorem heap_alloc5_d (w : World) (A B C D E : Obj) : (((((w.alloc A).alloc B).alloc C).alloc D).alloc E).heap[w.heap.size + 3]? = some D := by
  rw [Below.heap_alloc _ _ _ (by simp)]; have := heap_alloc_new (((w.alloc A).alloc B).alloc C) D; simpa using this
theorem heap_alloc5_e (w : World) (A B C D E : Obj) : (((((w.alloc A).alloc B).alloc C).alloc D).alloc E).heap[w.heap.size + 4]? = some E := by
  have := heap_alloc_new ((((w.alloc A).alloc B).alloc C).alloc D) E; simpa using this
end Go.Proofs.YtnfchlkdppblfaaDoor
