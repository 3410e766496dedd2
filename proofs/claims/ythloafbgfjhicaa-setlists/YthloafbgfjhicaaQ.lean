/- The law SetLists answers true at every input, over the landed code: the walk. -/
import Derived.Test.YthloafbgfjhicaaV
namespace Go.Proofs.Ythloafbgfjhicaa
open Go.RowKit
/-- A slice of ints of the call's own, and what of an elder world stands. -/
def GivesInts2 (w wx : World) (l : List Int) (e : Ending) (w' : World) : Prop :=
  ∃ v, e = .returned v ∧ w'.ownsRow wx.heap.size 3 1 v l.length (l.map (Value.int .i64)) ∧ Below wx.heap.size wx w' ∧ Below w.heap.size w w'
theorem fromI {k : Nat} {args : Array Value} {w wx : World} {l : List Int} (h : Calls Try.prog k args wx (GivesInts wx l)) (hB : Below w.heap.size w wx) : Calls Try.prog k args wx (GivesInts2 w wx l) :=
  h.mono fun _ _ ⟨v, he, ho, hb⟩ => ⟨v, he, ho, hb, hB.trans (hb.mono hB.size)⟩
def GivesRuns2 (w wx : World) (n : Nat) (l : List Int) (e : Ending) (w' : World) : Prop :=
  ∃ v, e = .returned v ∧ w'.ownsRow wx.heap.size 39 2 v n (l.map (Value.int .i64)) ∧ Below wx.heap.size wx w' ∧ Below w.heap.size w w'
theorem fromR {k n : Nat} {args : Array Value} {w wx : World} {l : List Int} (h : Calls Try.prog k args wx (GivesRuns wx n l)) (hB : Below w.heap.size w wx) : Calls Try.prog k args wx (GivesRuns2 w wx n l) :=
  h.mono fun _ _ ⟨v, he, ho, hb⟩ => ⟨v, he, ho, hb, hB.trans (hb.mono hB.size)⟩
set_option maxRecDepth 100000 in
set_option maxHeartbeats 4000000 in
theorem lists_any (f : Nat → Int) (w : World) :
    Calls Try.prog 4 #[SV f] w fun e w' => e = .returned (.bool true) ∧ Below w.heap.size w w' := by
  go_enter Try.func4, Try.ntmps4
  go_wp2_with fail
  have HP := Lib.hid (heap_alloc_new w (.cells (row4 f) 24 (0, 0)))
  have hB : Below w.heap.size w (w.alloc (.cells (row4 f) 24 (0, 0))) := (Below.refl _ _).alloc (Nat.le_refl _) _
  have hpl : w.heap.size < (w.alloc (.cells (row4 f) 24 (0, 0))).heap.size := by simp
  generalize w.alloc (.cells (row4 f) 24 (0, 0)) = w2 at *
  go_region_held3 (fun w' => Below w2.heap.size w2 w' ∧ w'.cell? ⟨w.heap.size, 0, none⟩ = some (.int .u64 (f 0)) ∧ w'.cell? ⟨w.heap.size, 1, none⟩ = some (.int .u64 (f 1)) ∧ w'.cell? ⟨w.heap.size, 2, none⟩ = some (.int .u64 (f 2)) ∧ w'.cell? ⟨w.heap.size, 3, none⟩ = some (.int .u64 (f 3)))
    ((refine keep4 hpl HP.out ?_; first | assumption | exact (Below.refl _ _).drew))
    (first
      | (go_at_call 8; go_split_ands; refine (fromB (w := w2) (awake_any _) ?_).mono ?_; assumption; rintro e wz ⟨rfl, hBz⟩)
      | (go_at_call 22; go_split_ands; refine (fromI (w := w2) (list_any f _) ?_).mono ?_; assumption; rintro e wa ⟨va, rfl, howa, hba, hBa⟩)
      | (go_at_call 23; go_split_ands; refine (fromI (w := w2) (reflist_any f _) ?_).mono ?_; assumption; rintro e wb ⟨vb, rfl, howb, hbb, hBb⟩)
      | (go_at_call 21; go_split_ands; refine (fromB (w := w2) (ints_same (listS f) (ownsRow_below howa hbb) howb) ?_).mono ?_; assumption; rintro e wc ⟨rfl, hBc⟩)
      | (go_at_call 25; go_split_ands; refine (fromR (w := w2) (runs_any f _) ?_).mono ?_; assumption; rintro e wd ⟨vd, rfl, howd, hbd, hBd⟩)
      | (go_at_call 26; go_split_ands; refine (fromR (w := w2) (refruns_any f _) ?_).mono ?_; assumption; rintro e we ⟨ve, rfl, howe, hbe, hBe⟩)
      | (go_at_call 24; go_split_ands; refine (fromB (w := w2) (runs_same (runsN f) (runsS f) (ownsRow_below howd hbe) howe) ?_).mono ?_; assumption; rintro e wg ⟨rfl, hBg⟩))
  go_wp2
  go_ret
  exact ⟨rfl, hB.trans (hBg.mono hB.size)⟩
end Go.Proofs.Ythloafbgfjhicaa
