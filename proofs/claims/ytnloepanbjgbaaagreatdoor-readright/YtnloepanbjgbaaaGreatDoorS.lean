/- Contracts of the landed code's couple.leave and Same, for any patterns. -/
import Derived.Test.YtnloepanbjgbaaaGreatDoorX
namespace Go.Proofs.YtnloepanbjgbaaaGreatDoor
open Go.RowKit
/-- Are two patterns the same, with all in them? -/
def sameT : Tr → Tr → Bool
  | .node k s lo hi a n cap kid, u => likeB (.node k s lo hi a n cap kid) u && allTo (fun i => sameT (kid i) (u.kid i)) n
  | .nul, u => likeB .nul u
theorem sameT_eq (t u : Tr) : sameT t u = (likeB t u && allTo (fun i => sameT (t.kid i) (u.kid i)) t.n) := by
  cases t with
  | node => rfl
  | nul => simp [sameT, allTo, Tr.n]
end Go.Proofs.YtnloepanbjgbaaaGreatDoor
