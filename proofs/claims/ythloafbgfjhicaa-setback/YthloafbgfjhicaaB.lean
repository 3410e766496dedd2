/- Contracts of set.Or, set.And, set.Not, set.ofBytes, set.Of and set.Fold over the landed code. No conditions. -/
import Derived.Test.YthloafbgfjhicaaA
namespace Go.Proofs.Ythloafbgfjhicaa
open Go.RowKit
def orS (f g : Nat → Int) (i : Nat) : Int := bits .or .u64 (f i) (g i)
/-- The complement, word by word. -/
def notS (f : Nat → Int) (i : Nat) : Int := bits .xor .u64 IntKind.u64.max (f i)
def andS (f g : Nat → Int) (i : Nat) : Int := bits .and .u64 (f i) (g i)
theorem ret_int {k : IntKind} {a b : Int} (h : a = b) : Ending.returned (.int k a) = .returned (.int k b) := by rw [h]
set_option maxHeartbeats 400000 in
theorem or1_any (f g : Nat → Int) (i p q : Nat) (hi : i < 4) (w : World) (hp : w.heap[p]? = some (.cells (row4 f) 24 (0, 0))) (hq : w.heap[q]? = some (.cells (row4 g) 24 (0, 0))) :
    Calls Try.prog 31 #[.int .i64 i, .pointer (some ⟨p, 0, none⟩), .pointer (some ⟨q, 0, none⟩)] w fun e w' => e = .returned (.int .u64 (orS f g i)) ∧ Below w.heap.size w w' := by
  have cp := cell4 hp i hi
  have cq := cell4 hq i hi
  have hi' : (i : Int) < 4 := by omega
  clear hp hq
  go_enter Try.func31, Try.ntmps31
  go_wp2
  go_quiet (fail)
  go_wp2
  go_ret
  exact ⟨rfl, below_drewN (Below.refl _ _) _⟩

theorem heap_alloc3_a (w : World) (A B C : Obj) : (((w.alloc A).alloc B).alloc C).heap[w.heap.size]? = some A := by
  rw [Below.heap_alloc _ _ _ (by simp; omega)]; exact heap_alloc2_old _ _ _
theorem heap_alloc3_b (w : World) (A B C : Obj) : (((w.alloc A).alloc B).alloc C).heap[w.heap.size + 1]? = some B := by
  rw [Below.heap_alloc _ _ _ (by simp)]; exact heap_alloc2_new _ _ _
theorem heap_alloc3_c (w : World) (A B C : Obj) : (((w.alloc A).alloc B).alloc C).heap[w.heap.size + 2]? = some C := by
  have := heap_alloc_new ((w.alloc A).alloc B) C
  simpa using this
set_option maxHeartbeats 400000 in
theorem or_any (f g : Nat → Int) (w : World) :
    Calls Try.prog 13 #[SV f, SV g] w fun e w' => e = .returned (SV (orS f g)) ∧ Below w.heap.size w w' := by
  go_enter Try.func13, Try.ntmps13
  go_wp2_with fail
  refine (ofWords_any 31 enters31 _ (orS f g) _ ?_).mono ?_
  · refine Lib.hid ?_
    intro i w1 hi hb
    exact or1_any f g i _ _ hi w1 ((hb.block _ (by simp <;> omega)).trans (heap_alloc3_a _ _ _ _)) ((hb.block _ (by simp <;> omega)).trans (heap_alloc3_b _ _ _ _))
  · rintro e w1 ⟨rfl, hb⟩
    have hr : w1.heap[w.heap.size + 2]? = some (.cells (row4 fun _ => 0) 24 (0, 0)) := (hb.block _ (by simp <;> omega)).trans (heap_alloc3_c _ _ _ _)
    have hB : Below w.heap.size w w1 := ((((Below.refl _ _).alloc (Nat.le_refl _) _).alloc (by simp <;> omega) _).alloc (by simp <;> omega) _).trans (hb.mono (by simp <;> omega))
    have d0 := cell4 hr 0 (by omega)
    have d1 := cell4 hr 1 (by omega)
    have d2 := cell4 hr 2 (by omega)
    have d3 := cell4 hr 3 (by omega)
    have f0 := frozen_of_row _ _ 0 _ _ hr
    have f1 := frozen_of_row _ _ 1 _ _ hr
    have f2 := frozen_of_row _ _ 2 _ _ hr
    have f3 := frozen_of_row _ _ 3 _ _ hr
    have HR := Lib.hid (stored4 (orS f g) hr)
    clear hr hb
    go_wp2
    refine bodyPost_ret (v := SV (orS f g)) (ret4 Try.results13 rfl HR.out) rfl ⟨rfl, ?_⟩
    exact (((hB.setCell (by simp <;> omega) _).setCell (by simp <;> omega) _).setCell (by simp <;> omega) _).setCell (by simp <;> omega) _
set_option maxHeartbeats 400000 in
theorem and1_any (f g : Nat → Int) (i p q : Nat) (hi : i < 4) (w : World) (hp : w.heap[p]? = some (.cells (row4 f) 24 (0, 0))) (hq : w.heap[q]? = some (.cells (row4 g) 24 (0, 0))) :
    Calls Try.prog 32 #[.int .i64 i, .pointer (some ⟨p, 0, none⟩), .pointer (some ⟨q, 0, none⟩)] w fun e w' => e = .returned (.int .u64 (andS f g i)) ∧ Below w.heap.size w w' := by
  have cp := cell4 hp i hi
  have cq := cell4 hq i hi
  have hi' : (i : Int) < 4 := by omega
  clear hp hq
  go_enter Try.func32, Try.ntmps32
  go_wp2
  go_quiet (fail)
  go_wp2
  go_ret
  exact ⟨rfl, below_drewN (Below.refl _ _) _⟩

set_option maxHeartbeats 400000 in
theorem and_any (f g : Nat → Int) (w : World) :
    Calls Try.prog 15 #[SV f, SV g] w fun e w' => e = .returned (SV (andS f g)) ∧ Below w.heap.size w w' := by
  go_enter Try.func15, Try.ntmps15
  go_wp2_with fail
  refine (ofWords_any 32 enters32 _ (andS f g) _ ?_).mono ?_
  · refine Lib.hid ?_
    intro i w1 hi hb
    exact and1_any f g i _ _ hi w1 ((hb.block _ (by simp <;> omega)).trans (heap_alloc3_a _ _ _ _)) ((hb.block _ (by simp <;> omega)).trans (heap_alloc3_b _ _ _ _))
  · rintro e w1 ⟨rfl, hb⟩
    have hr : w1.heap[w.heap.size + 2]? = some (.cells (row4 fun _ => 0) 24 (0, 0)) := (hb.block _ (by simp <;> omega)).trans (heap_alloc3_c _ _ _ _)
    have hB : Below w.heap.size w w1 := ((((Below.refl _ _).alloc (Nat.le_refl _) _).alloc (by simp <;> omega) _).alloc (by simp <;> omega) _).trans (hb.mono (by simp <;> omega))
    have d0 := cell4 hr 0 (by omega)
    have d1 := cell4 hr 1 (by omega)
    have d2 := cell4 hr 2 (by omega)
    have d3 := cell4 hr 3 (by omega)
    have f0 := frozen_of_row _ _ 0 _ _ hr
    have f1 := frozen_of_row _ _ 1 _ _ hr
    have f2 := frozen_of_row _ _ 2 _ _ hr
    have f3 := frozen_of_row _ _ 3 _ _ hr
    have HR := Lib.hid (stored4 (andS f g) hr)
    clear hr hb
    go_wp2
    refine bodyPost_ret (v := SV (andS f g)) (ret4 Try.results15 rfl HR.out) rfl ⟨rfl, ?_⟩
    exact (((hB.setCell (by simp <;> omega) _).setCell (by simp <;> omega) _).setCell (by simp <;> omega) _).setCell (by simp <;> omega) _

set_option maxHeartbeats 400000 in
theorem not1_any (f : Nat → Int) (i p : Nat) (hi : i < 4) (w : World) (hp : w.heap[p]? = some (.cells (row4 f) 24 (0, 0))) :
    Calls Try.prog 33 #[.int .i64 i, .pointer (some ⟨p, 0, none⟩)] w fun e w' => e = .returned (.int .u64 (notS f i)) ∧ Below w.heap.size w w' := by
  have cp := cell4 hp i hi
  have hi' : (i : Int) < 4 := by omega
  clear hp
  go_enter Try.func33, Try.ntmps33
  go_wp2
  go_ret
  exact ⟨rfl, Below.refl _ _⟩
/-- A word's first j bits, out of K. -/
def wordI (K : Int → Bool) (i : Nat) : Nat → Int
  | 0 => 0
  | j + 1 => if K ((i : Int) * 64 + (j : Int)) then bits .or .u64 (wordI K i j) (IntKind.u64.wrap (2 ^ j)) else wordI K i j
theorem wordI_no {K : Int → Bool} {i j : Nat} (h : K ((i : Int) * 64 + (j : Int)) = false) : wordI K i (j + 1) = wordI K i j := by
  show (if _ then _ else _) = _
  rw [h]; rfl
theorem wordI_yes {K : Int → Bool} {i j : Nat} (h : K ((i : Int) * 64 + (j : Int)) = true) : wordI K i (j + 1) = bits .or .u64 (wordI K i j) (IntKind.u64.wrap (2 ^ j)) := by
  show (if _ then _ else _) = _
  rw [h]; rfl
set_option maxHeartbeats 400000 in
theorem ofBytes1_any (kk : Nat) (hk : Enters kk) (caps : Array Value) (K : Int → Bool) (i p : Nat) (hi : i < 4) (w : World) (hp : w.cell? ⟨p, 0, none⟩ = some (.func (.func kk) #[] caps)) (hpl : p < w.heap.size)
   (H : Hid (∀ (b : Int) (w1 : World), 0 ≤ b → b < 256 → Below w.heap.size w w1 → Calls Try.prog kk (#[.int .i64 b] ++ caps) w1 fun e w2 => e = .returned (.bool (K b)) ∧ Below w1.heap.size w1 w2)) :
    Calls Try.prog 37 #[.int .i64 i, .pointer (some ⟨p, 0, none⟩)] w fun e w' => e = .returned (.int .u64 (wordI K i 64)) ∧ Below w.heap.size w w' := by
  unfold Enters at hk
  go_enter Try.func37, Try.ntmps37
  go_wp2
  go_loopw [4, 6] (fun x c wr => ∃ (j : Nat), j ≤ 64 ∧ c = .int .i64 j ∧ x = .int .u64 (wordI K i j) ∧ Below w.heap.size w wr) (fun _ c _ => 64 - (intOf c).toNat)
  case atStart => exact ⟨0, by omega, rfl, rfl, Below.refl _ _⟩
  case round =>
    obtain ⟨j, hj, rfl, rfl, hb⟩ := hrel
    by_cases hlt : j < 64
    · have hp' : wr.cell? ⟨p, 0, none⟩ = some (.func (.func kk) #[] caps) := (hb.cell (by dsimp only; omega)).trans hp
      go_wp2_with fail
      refine (H.out ((i : Int) * 64 + (j : Int)) _ (by omega) (by omega) hb).mono ?_
      rintro e w1 ⟨rfl, hb1⟩
      have hb2 : Below w.heap.size w w1 := hb.trans (hb1.mono hb.size)
      cases hK : K ((i : Int) * 64 + (j : Int))
      · have HK := Lib.hid (wordI_no hK); clear hK hp'
        go_wp2
        go_roundw
        case rel => exact ⟨j + 1, by omega, by go_num, by rw [HK.out], hb2⟩
        case measure => simp [intOf]; omega
      · have HK := Lib.hid (wordI_yes hK); clear hK hp'
        go_wp2
        go_roundw
        case rel => exact ⟨j + 1, by omega, by go_num, by rw [HK.out], hb2⟩
        case measure => simp [intOf]; omega
    · have e4 : j = 64 := by omega
      subst e4
      go_wp2
      go_ret
      exact ⟨rfl, hb⟩
set_option maxHeartbeats 400000 in
theorem not_any (f : Nat → Int) (w : World) :
    Calls Try.prog 17 #[SV f] w fun e w' => e = .returned (SV (notS f)) ∧ Below w.heap.size w w' := by
  go_enter Try.func17, Try.ntmps17
  go_wp2_with fail
  refine (ofWords_any 33 enters33 _ (notS f) _ ?_).mono ?_
  · refine Lib.hid ?_
    intro i w1 hi hb
    exact not1_any f i _ hi w1 ((hb.block _ (by simp <;> omega)).trans (heap_alloc2_old _ _ _))
  · rintro e w1 ⟨rfl, hb⟩
    have hr : w1.heap[w.heap.size + 1]? = some (.cells (row4 fun _ => 0) 24 (0, 0)) := (hb.block _ (by simp <;> omega)).trans (heap_alloc2_new _ _ _)
    have hB : Below w.heap.size w w1 := (((Below.refl _ _).alloc (Nat.le_refl _) _).alloc (by simp) _).trans (hb.mono (by simp <;> omega))
    have d0 := cell4 hr 0 (by omega)
    have d1 := cell4 hr 1 (by omega)
    have d2 := cell4 hr 2 (by omega)
    have d3 := cell4 hr 3 (by omega)
    have f0 := frozen_of_row _ _ 0 _ _ hr
    have f1 := frozen_of_row _ _ 1 _ _ hr
    have f2 := frozen_of_row _ _ 2 _ _ hr
    have f3 := frozen_of_row _ _ 3 _ _ hr
    have HR := Lib.hid (stored4 (notS f) hr)
    clear hr hb
    go_wp2
    refine bodyPost_ret (v := SV (notS f)) (ret4 Try.results17 rfl HR.out) rfl ⟨rfl, ?_⟩
    exact (((hB.setCell (by simp) _).setCell (by simp) _).setCell (by simp) _).setCell (by simp) _
/-- The set of the bytes for which K says yes. -/
def byK (K : Int → Bool) (i : Nat) : Int := wordI K i 64
set_option maxHeartbeats 400000 in
theorem ofBytes_any (kk : Nat) (hk : Enters kk) (caps : Array Value) (K : Int → Bool) (w : World)
   (H : Hid (∀ (b : Int) (w1 : World), 0 ≤ b → b < 256 → Below w.heap.size w w1 → Calls Try.prog kk (#[.int .i64 b] ++ caps) w1 fun e w2 => e = .returned (.bool (K b)) ∧ Below w1.heap.size w1 w2)) :
    Calls Try.prog 27 #[.func (.func kk) #[] caps] w fun e w' => e = .returned (SV (byK K)) ∧ Below w.heap.size w w' := by
  go_enter Try.func27, Try.ntmps27
  go_wp2_with fail
  refine (ofWords_any 37 enters37 _ (byK K) _ ?_).mono ?_
  · refine Lib.hid ?_
    intro i w1 hi hb
    have hB : Below w.heap.size w w1 := (((Below.refl _ _).alloc (Nat.le_refl _) _).alloc (by simp) _).trans (hb.mono (by simp <;> omega))
    have hz : w.heap.size < w1.heap.size := by have := hb.size; simp at this; omega
    refine ofBytes1_any kk hk caps K i w.heap.size hi w1 ?_ hz (Lib.hid fun b w2 h0 h1 hb2 => H.out b w2 h0 h1 (hB.trans (hb2.mono (by omega))))
    rw [cell_of_row _ _ _ _ _ _ ((hb.block _ (by simp <;> omega)).trans (heap_alloc2_old _ _ _))]; rfl
  · rintro e w1 ⟨rfl, hb⟩
    have hr : w1.heap[w.heap.size + 1]? = some (.cells (row4 fun _ => 0) 24 (0, 0)) := (hb.block _ (by simp <;> omega)).trans (heap_alloc2_new _ _ _)
    have hB : Below w.heap.size w w1 := (((Below.refl _ _).alloc (Nat.le_refl _) _).alloc (by simp) _).trans (hb.mono (by simp <;> omega))
    have d0 := cell4 hr 0 (by omega)
    have d1 := cell4 hr 1 (by omega)
    have d2 := cell4 hr 2 (by omega)
    have d3 := cell4 hr 3 (by omega)
    have f0 := frozen_of_row _ _ 0 _ _ hr
    have f1 := frozen_of_row _ _ 1 _ _ hr
    have f2 := frozen_of_row _ _ 2 _ _ hr
    have f3 := frozen_of_row _ _ 3 _ _ hr
    have HR := Lib.hid (stored4 (byK K) hr)
    clear hr hb
    go_wp2
    refine bodyPost_ret (v := SV (byK K)) (ret4 Try.results27 rfl HR.out) rfl ⟨rfl, ?_⟩
    exact (((hB.setCell (by simp) _).setCell (by simp) _).setCell (by simp) _).setCell (by simp) _
set_option maxHeartbeats 400000 in
theorem of1_any (x y b : Int) (p q : Nat) (w : World) (hp : w.cell? ⟨p, 0, none⟩ = some (.int .i64 x)) (hq : w.cell? ⟨q, 0, none⟩ = some (.int .i64 y)) :
    Calls Try.prog 28 #[.int .i64 b, .pointer (some ⟨p, 0, none⟩), .pointer (some ⟨q, 0, none⟩)] w fun e w' => e = .returned (.bool (decide (x ≤ b) && decide (b ≤ y))) ∧ Below w.heap.size w w' := by
  by_cases h : x ≤ b
  · go_enter Try.func28, Try.ntmps28
    go_wp2
    go_ret
    exact ⟨by simp [h], Below.refl _ _⟩
  · go_enter Try.func28, Try.ntmps28
    go_wp2
    go_ret
    exact ⟨by simp; omega, Below.refl _ _⟩
/-- What Of's closure answers. -/
def ofK (x y b : Int) : Bool := decide (x ≤ b) && decide (b ≤ y)
set_option maxHeartbeats 400000 in
theorem of_any (x y : Int) (w : World) :
    Calls Try.prog 11 #[.int .i64 x, .int .i64 y] w fun e w' => e = .returned (SV (byK (ofK x y))) ∧ Below w.heap.size w w' := by
  go_enter Try.func11, Try.ntmps11
  go_wp2_with fail
  refine (ofBytes_any 28 enters28 _ (ofK x y) _ ?_).mono ?_
  · refine Lib.hid ?_
    intro b w1 _ _ hb
    refine of1_any x y b _ _ w1 ?_ ?_
    · rw [cell_of_row _ _ _ _ _ _ ((hb.block _ (by simp <;> omega)).trans (heap_alloc3_a _ _ _ _))]; rfl
    · rw [cell_of_row _ _ _ _ _ _ ((hb.block _ (by simp <;> omega)).trans (heap_alloc3_b _ _ _ _))]; rfl
  · rintro e w1 ⟨rfl, hb⟩
    have hr : w1.heap[w.heap.size + 2]? = some (.cells (row4 fun _ => 0) 24 (0, 0)) := (hb.block _ (by simp)).trans (heap_alloc3_c _ _ _ _)
    have hB : Below w.heap.size w w1 := ((((Below.refl _ _).alloc (Nat.le_refl _) _).alloc (by simp) _).alloc (by simp <;> omega) _).trans (hb.mono (by simp <;> omega))
    have d0 := cell4 hr 0 (by omega)
    have d1 := cell4 hr 1 (by omega)
    have d2 := cell4 hr 2 (by omega)
    have d3 := cell4 hr 3 (by omega)
    have f0 := frozen_of_row _ _ 0 _ _ hr
    have f1 := frozen_of_row _ _ 1 _ _ hr
    have f2 := frozen_of_row _ _ 2 _ _ hr
    have f3 := frozen_of_row _ _ 3 _ _ hr
    have HR := Lib.hid (stored4 (byK (ofK x y)) hr)
    clear hr hb
    go_wp2
    refine bodyPost_ret (v := SV (byK (ofK x y))) (ret4 Try.results11 rfl HR.out) rfl ⟨rfl, ?_⟩
    exact (((hB.setCell (by simp <;> omega) _).setCell (by simp <;> omega) _).setCell (by simp <;> omega) _).setCell (by simp <;> omega) _
end Go.Proofs.Ythloafbgfjhicaa
