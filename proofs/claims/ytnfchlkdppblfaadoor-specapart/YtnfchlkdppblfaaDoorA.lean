/- Sets of bytes: contracts of set.Has, ofBytes, Of, Runs, and Go's == on them. No conditions. Carried over from stage 1. -/
import Derived.Test.YtnfchlkdppblfaaDoorRows
import Derived.WalkKit
import Derived.WalkSpells
import Derived.WalkLawsBesides
import Derived.Deep.QuietTactic
import Derived.BigQuiet
import Derived.Lib.Hide
import Derived.Deep.RegionHeld3
import Derived.Deep.RegionLaw
import Derived.Deep.AppendLies
import Derived.Maps.AppendAt
import Derived.Maps.OwnSet
import Derived.ChangeKeysEq
namespace Go.Proofs.YtnfchlkdppblfaaDoor
open Go.RowKit
abbrev SV (f : Nat → Int) : Value := .agg #[.int .u64 (f 0), .int .u64 (f 1), .int .u64 (f 2), .int .u64 (f 3)]
/-- Function k is one with a body: a call of it enters it. -/
def Enters (k : Nat) : Prop := ∀ (args : Array Value) (w : World), Sem.run Tryd.prog (callFunc k args) w = .ok (.enter k args) w
theorem enters43 : Enters 43 := fun _ _ => by kernel_rfl
theorem enters44 : Enters 44 := fun _ _ => by kernel_rfl
theorem enters100 : Enters 100 := fun _ _ => by kernel_rfl
theorem enters95 : Enters 95 := fun _ _ => by kernel_rfl
theorem enters48 : Enters 48 := fun _ _ => by kernel_rfl
/-- What ofWords' words are behind j rounds. -/
def upto (f : Nat → Int) (j i : Nat) : Int := if i < j then f i else 0
theorem upto_set (f : Nat → Int) (j : Nat) (h : j < 4) : (#[Value.int .u64 (upto f j 0), .int .u64 (upto f j 1), .int .u64 (upto f j 2), .int .u64 (upto f j 3)] : Array Value).setIfInBounds j (.int .u64 (f j)) = #[Value.int .u64 (upto f (j+1) 0), .int .u64 (upto f (j+1) 1), .int .u64 (upto f (j+1) 2), .int .u64 (upto f (j+1) 3)] := by
  match j, h with
  | 0, _ => simp [upto]
  | 1, _ => simp [upto]
  | 2, _ => simp [upto]
  | 3, _ => simp [upto]
abbrev row4 (f : Nat → Int) : Array Value := #[.int .u64 (f 0), .int .u64 (f 1), .int .u64 (f 2), .int .u64 (f 3)]
theorem cell4 {w : World} {g : Nat} {f : Nat → Int} (h : w.heap[g]? = some (.cells (row4 f) 25 (0, 0))) (i : Nat) (hi : i < 4) : w.cell? ⟨g, i, none⟩ = some (.int .u64 (f i)) := by
  rw [cell_of_row w g i _ _ _ h]
  match i, hi with
  | 0, _ => rfl
  | 1, _ => rfl
  | 2, _ => rfl
  | 3, _ => rfl
theorem stored4 {w : World} {g : Nat} {z : Nat → Int} (f : Nat → Int) (h : w.heap[g]? = some (.cells (row4 z) 25 (0, 0))) :
    ((((w.setCell ⟨g, 0, none⟩ (.int .u64 (f 0))).setCell ⟨g, 1, none⟩ (.int .u64 (f 1))).setCell ⟨g, 2, none⟩ (.int .u64 (f 2))).setCell ⟨g, 3, none⟩ (.int .u64 (f 3))).heap[g]? = some (.cells (row4 f) 25 (0, 0)) := by
  have h1 := heap_setCell_same w g 0 _ _ (.int .u64 (f 0)) h
  have h2 := heap_setCell_same _ g 1 _ _ (.int .u64 (f 1)) h1
  have h3 := heap_setCell_same _ g 2 _ _ (.int .u64 (f 2)) h2
  have h4 := heap_setCell_same _ g 3 _ _ (.int .u64 (f 3)) h3
  rw [h4]; simp
theorem info24s : (Tryd.prog.info? 25).map (·.size) = some 4 := by kernel_rfl
theorem ret4 {fn : Func} {p : Tmp} (h : fn.results = #[.cell p 25]) {tmps : Array Value} {w : World} {g : Nat} {f : Nat → Int} (hp : tmps.getD p undef = .pointer (some ⟨g, 0, none⟩)) (hg : w.heap[g]? = some (.cells (row4 f) 25 (0, 0))) :
    (results fn tmps).run Tryd.prog w = .ok (SV f) w :=
  results_cell_row h tmps w g 25 _ _ _ hp hg Tryd.underlying25 rfl info24s
set_option maxHeartbeats 400000 in
theorem ofWords_any (k : Nat) (hk : Enters k) (caps : Array Value) (f : Nat → Int) (w : World)
   (H : Hid (∀ (i : Nat) (w1 : World), i < 4 → Below w.heap.size w w1 → Calls Tryd.prog k (#[.int .i64 i] ++ caps) w1 fun e w2 => e = .returned (.int .u64 (f i)) ∧ Below w1.heap.size w1 w2)) :
    Calls Tryd.prog 99 #[.func (.func k) #[] caps] w fun e w' => e = .returned (SV f) ∧ Below w.heap.size w w' := by
  unfold Enters at hk
  go_enter Tryd.func99, Tryd.ntmps99
  go_wp2
  go_loopw [5] (fun i wr => ∃ j : Nat, j ≤ 4 ∧ i = .int .i64 j ∧ wr.heap[w.heap.size]? = some (.cells (row4 fun _ => 0) 25 (0, 0)) ∧ wr.heap[w.heap.size + 1]? = some (.cells (row4 (upto f j)) 25 (0, 0)) ∧ w.heap.size + 2 ≤ wr.heap.size ∧ Below w.heap.size w wr) (fun i _ => 4 - (intOf i).toNat)
  case atStart => exact ⟨0, by omega, rfl, heap_alloc2_old _ _ _, heap_alloc2_new _ _ _, by simp, ((Below.refl _ _).alloc (Nat.le_refl _) _).alloc (by simp) _⟩
  case round =>
    obtain ⟨j, hj, rfl, hc0, hc, hs, hb⟩ := hrel
    by_cases hlt : j < 4
    · have HC0 := Lib.hid hc0; have HC := Lib.hid hc; clear hc hc0
      go_wp2_with fail
      refine (H.out j _ hlt hb).mono ?_
      rintro e w1 ⟨rfl, hb1⟩
      have hc1 := HC.out
      have hcc : w1.cell? ⟨w.heap.size + 1, j, none⟩ = some (.int .u64 (upto f j j)) := (hb1.cell (by dsimp only; omega)).trans (cell4 hc1 j hlt)
      have hff : w1.frozen? ⟨w.heap.size + 1, j, none⟩ = false := (hb1.frozen (by dsimp only; omega)).trans (frozen_of_row _ _ _ _ _ hc1)
      clear hc1
      go_wp2
      go_roundw
      case rel =>
        refine ⟨j + 1, by omega, by go_num, ?_, ?_, by simp; have := hb1.size; omega, (hb.trans (hb1.mono (by omega))).setCell (by dsimp only; omega) _⟩
        · rw [heap_setCell_other _ _ _ _ (by dsimp only; omega), hb1.block _ (by omega)]; exact HC0.out
        · rw [heap_setCell_same _ _ _ _ _ _ ((hb1.block _ (by omega)).trans HC.out), upto_set f j hlt]
      case measure => simp [intOf]; omega
    · have e4 : j = 4 := by omega
      subst e4
      have c0 := cell4 hc 0 (by omega)
      have c1 := cell4 hc 1 (by omega)
      have c2 := cell4 hc 2 (by omega)
      have c3 := cell4 hc 3 (by omega)
      have d0 := cell4 hc0 0 (by omega)
      have d1 := cell4 hc0 1 (by omega)
      have d2 := cell4 hc0 2 (by omega)
      have d3 := cell4 hc0 3 (by omega)
      have f0 := frozen_of_row _ _ 0 _ _ hc0
      have f1 := frozen_of_row _ _ 1 _ _ hc0
      have f2 := frozen_of_row _ _ 2 _ _ hc0
      have f3 := frozen_of_row _ _ 3 _ _ hc0
      have HC0 := Lib.hid (stored4 (upto f 4) hc0)
      clear hc hc0
      go_wp2
      refine bodyPost_ret (v := SV f) (ret4 Tryd.results99 rfl HC0.out) rfl ⟨rfl, ?_⟩
      exact (((hb.setCell (by simp) _).setCell (by simp) _).setCell (by simp) _).setCell (by simp) _
theorem get4 (f : Nat → Int) (i : Nat) (h : i < 4) : [Value.int .u64 (f 0), Value.int .u64 (f 1), Value.int .u64 (f 2), Value.int .u64 (f 3)][i]? = some (.int .u64 (f i)) := by
  match i, h with
  | 0, _ => rfl
  | 1, _ => rfl
  | 2, _ => rfl
  | 3, _ => rfl
/-- What Has answers. -/
def hasI (f : Nat → Int) (b : Int) : Bool := decide (0 ≤ b) && (decide (b < 256) && bits .and .u64 (f (b / 64).toNat / 2 ^ (b % 64).toNat) 1 == 1)
theorem hasI_out {f : Nat → Int} {b : Int} (h : ¬ (0 ≤ b ∧ b < 256)) : hasI f b = false := by
  unfold hasI
  by_cases h0 : 0 ≤ b
  · rw [decide_eq_false (by omega : ¬ b < 256)]; simp
  · rw [decide_eq_false h0]; simp
theorem hasI_in {f : Nat → Int} {b : Int} (h0 : 0 ≤ b) (h1 : b < 256) : hasI f b = (bits .and .u64 (f (b / 64).toNat / 2 ^ (b % 64).toNat) 1 == 1) := by
  unfold hasI; rw [decide_eq_true h0, decide_eq_true h1]; simp
theorem ret_bool {a b : Bool} (h : a = b) : Ending.returned (.bool a) = .returned (.bool b) := by rw [h]
set_option maxHeartbeats 400000 in
theorem has_any (f : Nat → Int) (b : Int) (w : World) :
    Calls Tryd.prog 93 #[SV f, .int .i64 b] w fun e w' => e = .returned (.bool (hasI f b)) ∧ Below w.heap.size w w' := by
  by_cases h0 : 0 ≤ b
  · by_cases h1 : b < 256
    · have hg := get4 f (b/64).toNat (by omega)
      have HX := Lib.hid (hasI_in (f := f) h0 h1)
      go_enter Tryd.func93, Tryd.ntmps93
      go_wp2
      go_ret
      exact ⟨ret_bool HX.out.symm, (Below.refl _ _).alloc (Nat.le_refl _) _⟩
    · have HX := Lib.hid (hasI_out (f := f) (b := b) (by omega))
      go_enter Tryd.func93, Tryd.ntmps93
      go_wp2
      go_ret
      exact ⟨ret_bool HX.out.symm, (Below.refl _ _).alloc (Nat.le_refl _) _⟩
  · have HX := Lib.hid (hasI_out (f := f) (b := b) (by omega))
    go_enter Tryd.func93, Tryd.ntmps93
    go_wp2
    go_ret
    exact ⟨ret_bool HX.out.symm, (Below.refl _ _).alloc (Nat.le_refl _) _⟩
set_option maxHeartbeats 400000 in
theorem refhas_any (f : Nat → Int) (b : Int) (w : World) :
    Calls Tryd.prog 77 #[SV f, .int .i64 b] w fun e w' => e = .returned (.bool (hasI f b)) ∧ Below w.heap.size w w' := by
  by_cases h0 : 0 ≤ b
  · by_cases h1 : b < 256
    · have hg := get4 f (b/64).toNat (by omega)
      have HX := Lib.hid (hasI_in (f := f) h0 h1)
      go_enter Tryd.func77, Tryd.ntmps77
      go_wp2
      go_ret
      exact ⟨ret_bool HX.out.symm, (Below.refl _ _).alloc (Nat.le_refl _) _⟩
    · have HX := Lib.hid (hasI_out (f := f) (b := b) (by omega))
      go_enter Tryd.func77, Tryd.ntmps77
      go_wp2
      go_ret
      exact ⟨ret_bool HX.out.symm, (Below.refl _ _).alloc (Nat.le_refl _) _⟩
  · have HX := Lib.hid (hasI_out (f := f) (b := b) (by omega))
    go_enter Tryd.func77, Tryd.ntmps77
    go_wp2
    go_ret
    exact ⟨ret_bool HX.out.symm, (Below.refl _ _).alloc (Nat.le_refl _) _⟩
theorem ret_int {k : IntKind} {a b : Int} (h : a = b) : Ending.returned (.int k a) = .returned (.int k b) := by rw [h]
theorem heap_alloc3_a (w : World) (A B C : Obj) : (((w.alloc A).alloc B).alloc C).heap[w.heap.size]? = some A := by
  rw [Below.heap_alloc _ _ _ (by simp; omega)]; exact heap_alloc2_old _ _ _
theorem heap_alloc3_b (w : World) (A B C : Obj) : (((w.alloc A).alloc B).alloc C).heap[w.heap.size + 1]? = some B := by
  rw [Below.heap_alloc _ _ _ (by simp)]; exact heap_alloc2_new _ _ _
theorem heap_alloc3_c (w : World) (A B C : Obj) : (((w.alloc A).alloc B).alloc C).heap[w.heap.size + 2]? = some C := by
  have := heap_alloc_new ((w.alloc A).alloc B) C
  simpa using this
/-- A word's first j bits, out of K. -/
def wordI (K : Int → Bool) (i : Nat) : Nat → Int
  | 0 => 0
  | j + 1 => if K ((i : Int) * 64 + (j : Int)) then bits .or .u64 (wordI K i j) (IntKind.u64.wrap (2 ^ j)) else wordI K i j
theorem wordI_no {K : Int → Bool} {i j : Nat} (h : K ((i : Int) * 64 + (j : Int)) = false) : wordI K i (j + 1) = wordI K i j := by
  show (if _ then _ else _) = _
  rw [h]; rfl
theorem wordI_yes {K : Int → Bool} {i j : Nat} (h : K ((i : Int) * 64 + (j : Int)) = true) : wordI K i (j + 1) = bits .or .u64 (wordI K i j) (IntKind.u64.wrap (2 ^ j)) := by
  show (if _ then _ else _) = _
  rw [h]; rfl
set_option maxHeartbeats 400000 in
theorem ofBytes1_any (kk : Nat) (hk : Enters kk) (caps : Array Value) (K : Int → Bool) (i p : Nat) (hi : i < 4) (w : World) (hp : w.cell? ⟨p, 0, none⟩ = some (.func (.func kk) #[] caps)) (hpl : p < w.heap.size)
   (H : Hid (∀ (b : Int) (w1 : World), 0 ≤ b → b < 256 → Below w.heap.size w w1 → Calls Tryd.prog kk (#[.int .i64 b] ++ caps) w1 fun e w2 => e = .returned (.bool (K b)) ∧ Below w1.heap.size w1 w2)) :
    Calls Tryd.prog 100 #[.int .i64 i, .pointer (some ⟨p, 0, none⟩)] w fun e w' => e = .returned (.int .u64 (wordI K i 64)) ∧ Below w.heap.size w w' := by
  unfold Enters at hk
  go_enter Tryd.func100, Tryd.ntmps100
  go_wp2
  go_loopw [4, 6] (fun x c wr => ∃ (j : Nat), j ≤ 64 ∧ c = .int .i64 j ∧ x = .int .u64 (wordI K i j) ∧ Below w.heap.size w wr) (fun _ c _ => 64 - (intOf c).toNat)
  case atStart => exact ⟨0, by omega, rfl, rfl, Below.refl _ _⟩
  case round =>
    obtain ⟨j, hj, rfl, rfl, hb⟩ := hrel
    by_cases hlt : j < 64
    · have hp' : wr.cell? ⟨p, 0, none⟩ = some (.func (.func kk) #[] caps) := (hb.cell (by dsimp only; omega)).trans hp
      go_wp2_with fail
      refine (H.out ((i : Int) * 64 + (j : Int)) _ (by omega) (by omega) hb).mono ?_
      rintro e w1 ⟨rfl, hb1⟩
      have hb2 : Below w.heap.size w w1 := hb.trans (hb1.mono hb.size)
      cases hK : K ((i : Int) * 64 + (j : Int))
      · have HK := Lib.hid (wordI_no hK); clear hK hp'
        go_wp2
        go_roundw
        case rel => exact ⟨j + 1, by omega, by go_num, by rw [HK.out], hb2⟩
        case measure => simp [intOf]; omega
      · have HK := Lib.hid (wordI_yes hK); clear hK hp'
        go_wp2
        go_roundw
        case rel => exact ⟨j + 1, by omega, by go_num, by rw [HK.out], hb2⟩
        case measure => simp [intOf]; omega
    · have e4 : j = 64 := by omega
      subst e4
      go_wp2
      go_ret
      exact ⟨rfl, hb⟩
/-- The set of the bytes for which K says yes. -/
def byK (K : Int → Bool) (i : Nat) : Int := wordI K i 64
set_option maxHeartbeats 400000 in
theorem ofBytes_any (kk : Nat) (hk : Enters kk) (caps : Array Value) (K : Int → Bool) (w : World)
   (H : Hid (∀ (b : Int) (w1 : World), 0 ≤ b → b < 256 → Below w.heap.size w w1 → Calls Tryd.prog kk (#[.int .i64 b] ++ caps) w1 fun e w2 => e = .returned (.bool (K b)) ∧ Below w1.heap.size w1 w2)) :
    Calls Tryd.prog 94 #[.func (.func kk) #[] caps] w fun e w' => e = .returned (SV (byK K)) ∧ Below w.heap.size w w' := by
  go_enter Tryd.func94, Tryd.ntmps94
  go_wp2_with fail
  refine (ofWords_any 100 enters100 _ (byK K) _ ?_).mono ?_
  · refine Lib.hid ?_
    intro i w1 hi hb
    have hB : Below w.heap.size w w1 := (((Below.refl _ _).alloc (Nat.le_refl _) _).alloc (by simp) _).trans (hb.mono (by simp <;> omega))
    have hz : w.heap.size < w1.heap.size := by have := hb.size; simp at this; omega
    refine ofBytes1_any kk hk caps K i w.heap.size hi w1 ?_ hz (Lib.hid fun b w2 h0 h1 hb2 => H.out b w2 h0 h1 (hB.trans (hb2.mono (by omega))))
    rw [cell_of_row _ _ _ _ _ _ ((hb.block _ (by simp <;> omega)).trans (heap_alloc2_old _ _ _))]; rfl
  · rintro e w1 ⟨rfl, hb⟩
    have hr : w1.heap[w.heap.size + 1]? = some (.cells (row4 fun _ => 0) 25 (0, 0)) := (hb.block _ (by simp <;> omega)).trans (heap_alloc2_new _ _ _)
    have hB : Below w.heap.size w w1 := (((Below.refl _ _).alloc (Nat.le_refl _) _).alloc (by simp) _).trans (hb.mono (by simp <;> omega))
    have d0 := cell4 hr 0 (by omega)
    have d1 := cell4 hr 1 (by omega)
    have d2 := cell4 hr 2 (by omega)
    have d3 := cell4 hr 3 (by omega)
    have f0 := frozen_of_row _ _ 0 _ _ hr
    have f1 := frozen_of_row _ _ 1 _ _ hr
    have f2 := frozen_of_row _ _ 2 _ _ hr
    have f3 := frozen_of_row _ _ 3 _ _ hr
    have HR := Lib.hid (stored4 (byK K) hr)
    clear hr hb
    go_wp2
    refine bodyPost_ret (v := SV (byK K)) (ret4 Tryd.results94 rfl HR.out) rfl ⟨rfl, ?_⟩
    exact (((hB.setCell (by simp) _).setCell (by simp) _).setCell (by simp) _).setCell (by simp) _
set_option maxHeartbeats 400000 in
theorem of1_any (x y b : Int) (p q : Nat) (w : World) (hp : w.cell? ⟨p, 0, none⟩ = some (.int .i64 x)) (hq : w.cell? ⟨q, 0, none⟩ = some (.int .i64 y)) :
    Calls Tryd.prog 95 #[.int .i64 b, .pointer (some ⟨p, 0, none⟩), .pointer (some ⟨q, 0, none⟩)] w fun e w' => e = .returned (.bool (decide (x ≤ b) && decide (b ≤ y))) ∧ Below w.heap.size w w' := by
  by_cases h : x ≤ b
  · go_enter Tryd.func95, Tryd.ntmps95
    go_wp2
    go_ret
    exact ⟨by simp [h], Below.refl _ _⟩
  · go_enter Tryd.func95, Tryd.ntmps95
    go_wp2
    go_ret
    exact ⟨by simp; omega, Below.refl _ _⟩
/-- What Of's closure answers. -/
def ofK (x y b : Int) : Bool := decide (x ≤ b) && decide (b ≤ y)
set_option maxHeartbeats 400000 in
theorem of_any (x y : Int) (w : World) :
    Calls Tryd.prog 79 #[.int .i64 x, .int .i64 y] w fun e w' => e = .returned (SV (byK (ofK x y))) ∧ Below w.heap.size w w' := by
  go_enter Tryd.func79, Tryd.ntmps79
  go_wp2_with fail
  refine (ofBytes_any 95 enters95 _ (ofK x y) _ ?_).mono ?_
  · refine Lib.hid ?_
    intro b w1 _ _ hb
    refine of1_any x y b _ _ w1 ?_ ?_
    · rw [cell_of_row _ _ _ _ _ _ ((hb.block _ (by simp <;> omega)).trans (heap_alloc3_a _ _ _ _))]; rfl
    · rw [cell_of_row _ _ _ _ _ _ ((hb.block _ (by simp <;> omega)).trans (heap_alloc3_b _ _ _ _))]; rfl
  · rintro e w1 ⟨rfl, hb⟩
    have hr : w1.heap[w.heap.size + 2]? = some (.cells (row4 fun _ => 0) 25 (0, 0)) := (hb.block _ (by simp)).trans (heap_alloc3_c _ _ _ _)
    have hB : Below w.heap.size w w1 := ((((Below.refl _ _).alloc (Nat.le_refl _) _).alloc (by simp) _).alloc (by simp <;> omega) _).trans (hb.mono (by simp <;> omega))
    have d0 := cell4 hr 0 (by omega)
    have d1 := cell4 hr 1 (by omega)
    have d2 := cell4 hr 2 (by omega)
    have d3 := cell4 hr 3 (by omega)
    have f0 := frozen_of_row _ _ 0 _ _ hr
    have f1 := frozen_of_row _ _ 1 _ _ hr
    have f2 := frozen_of_row _ _ 2 _ _ hr
    have f3 := frozen_of_row _ _ 3 _ _ hr
    have HR := Lib.hid (stored4 (byK (ofK x y)) hr)
    clear hr hb
    go_wp2
    refine bodyPost_ret (v := SV (byK (ofK x y))) (ret4 Tryd.results79 rfl HR.out) rfl ⟨rfl, ?_⟩
    exact (((hB.setCell (by simp <;> omega) _).setCell (by simp <;> omega) _).setCell (by simp <;> omega) _).setCell (by simp <;> omega) _
/-- A contract read from an elder world on. -/
theorem fromB {k : Nat} {args : Array Value} {w wx : World} {E : Ending} (h : Calls Tryd.prog k args wx fun e w' => e = E ∧ Below wx.heap.size wx w') (hB : Below w.heap.size w wx) :
    Calls Tryd.prog k args wx fun e w' => e = E ∧ Below w.heap.size w w' :=
  h.mono fun _ _ ⟨he, hb⟩ => ⟨he, hB.trans (hb.mono hB.size)⟩
theorem keep4 {w w1 : World} {p : Nat} {f : Nat → Int} (hpl : p < w.heap.size) (hc : w.heap[p]? = some (.cells (row4 f) 25 (0, 0))) (h : Below w.heap.size w w1) :
    Below w.heap.size w w1 ∧ w1.cell? ⟨p, 0, none⟩ = some (.int .u64 (f 0)) ∧ w1.cell? ⟨p, 1, none⟩ = some (.int .u64 (f 1)) ∧ w1.cell? ⟨p, 2, none⟩ = some (.int .u64 (f 2)) ∧ w1.cell? ⟨p, 3, none⟩ = some (.int .u64 (f 3)) := by
  have hc1 := (h.block p hpl).trans hc
  exact ⟨h, cell4 hc1 0 (by omega), cell4 hc1 1 (by omega), cell4 hc1 2 (by omega), cell4 hc1 3 (by omega)⟩
/-- The numbers below j for which K says yes. -/
def listI (K : Int → Bool) : Nat → List Int
  | 0 => []
  | j + 1 => if K (j : Int) then listI K j ++ [(j : Int)] else listI K j
theorem listI_yes {K : Int → Bool} {j : Nat} (h : K (j : Int) = true) : listI K (j + 1) = listI K j ++ [(j : Int)] := by
  show (if _ then _ else _) = _; rw [h]; rfl
theorem listI_no {K : Int → Bool} {j : Nat} (h : K (j : Int) = false) : listI K (j + 1) = listI K j := by
  show (if _ then _ else _) = _; rw [h]; rfl
theorem listI_le (K : Int → Bool) (j : Nat) : (listI K j).length ≤ j := by
  induction j with
  | zero => exact Nat.le_refl _
  | succ j ih =>
    cases h : K (j : Int)
    · rw [listI_no h]; omega
    · rw [listI_yes h]; simp; omega
theorem ownsRow_below {w w' : World} {base e size n : Nat} {v : Value} {xs : List Value} (h : w.ownsRow base e size v n xs) (hb : Below w.heap.size w w') : w'.ownsRow base e size v n xs := by
  obtain ⟨hl, h | ⟨g, cap, cur, hv, hg, hh, h1, h2, h3, h4⟩⟩ := h
  · exact ⟨hl, Or.inl h⟩
  · refine ⟨hl, Or.inr ⟨g, cap, cur, hv, hg, ?_, h1, h2, h3, h4⟩⟩
    rw [hb.block g (by rcases Nat.lt_or_ge g w.heap.size with h | h; exact h; rw [Array.getElem?_eq_none h] at hh; cases hh)]; exact hh
theorem ownsRow_base {w : World} {base base' e size n : Nat} {v : Value} {xs : List Value} (h : w.ownsRow base e size v n xs) (hb : base' ≤ base) : w.ownsRow base' e size v n xs := by
  obtain ⟨hl, h | ⟨g, cap, cur, hv, hg, hh, h1, h2, h3, h4⟩⟩ := h
  · exact ⟨hl, Or.inl h⟩
  · exact ⟨hl, Or.inr ⟨g, cap, cur, hv, by omega, hh, h1, h2, h3, h4⟩⟩
theorem own_ge {w : World} {base e size n : Nat} {v : Value} {xs : List Value} (h : w.ownsRow base e size v n xs) : ∀ k, v.ownBlock = some k → base ≤ k := by
  intro k hk
  obtain ⟨_, ⟨rfl, _⟩ | ⟨g, cap, cur, rfl, hg, _⟩⟩ := h
  · cases hk
  · cases hk; exact hg
/-- What a call that answers a slice of ints of its own comes to. -/
def GivesInts (w : World) (l : List Int) (e : Ending) (w' : World) : Prop :=
  ∃ v, e = .returned v ∧ w'.ownsRow w.heap.size 3 1 v l.length (l.map (Value.int .i64)) ∧ Below w.heap.size w w'
/-- The bytes of a set, rising. -/
def listS (f : Nat → Int) : List Int := listI (hasI f) 256
theorem info3 : (Tryd.prog.info? 3).map (fun i => (i.zero, i.size, i.bytes)) = some (some (.int .i64 0), 1, 8) := by kernel_rfl
/-- How many runs there are among the numbers below j, and the runs, first and last numbers in a row. -/
def cntR (K : Int → Bool) : Nat → Nat
  | 0 => 0
  | j + 1 => if K (j : Int) then (if K ((j : Int) - 1) then cntR K j else cntR K j + 1) else cntR K j
def flatR (K : Int → Bool) : Nat → List Int
  | 0 => []
  | j + 1 => if K (j : Int) then (if K ((j : Int) - 1) then (flatR K j).dropLast ++ [(j : Int)] else flatR K j ++ [(j : Int), (j : Int)]) else flatR K j
theorem flatR_no {K : Int → Bool} {j : Nat} (h : K (j : Int) = false) : flatR K (j + 1) = flatR K j ∧ cntR K (j + 1) = cntR K j := by
  constructor
  · show (if _ then _ else _) = _; rw [h]; rfl
  · show (if _ then _ else _) = _; rw [h]; rfl
theorem flatR_new {K : Int → Bool} {j : Nat} (h : K (j : Int) = true) (h' : K ((j : Int) - 1) = false) : flatR K (j + 1) = flatR K j ++ [(j : Int), (j : Int)] ∧ cntR K (j + 1) = cntR K j + 1 := by
  constructor
  · show (if _ then _ else _) = _; rw [h, h']; rfl
  · show (if _ then _ else _) = _; rw [h, h']; rfl
theorem flatR_on {K : Int → Bool} {j : Nat} (h : K (j : Int) = true) (h' : K ((j : Int) - 1) = true) : flatR K (j + 1) = (flatR K j).dropLast ++ [(j : Int)] ∧ cntR K (j + 1) = cntR K j := by
  constructor
  · show (if _ then _ else _) = _; rw [h, h']; rfl
  · show (if _ then _ else _) = _; rw [h, h']; rfl
theorem cntR_le (K : Int → Bool) (j : Nat) : cntR K j ≤ j := by
  induction j with
  | zero => exact Nat.le_refl _
  | succ j ih =>
    cases h : K (j : Int)
    · rw [(flatR_no h).2]; omega
    · cases h' : K ((j : Int) - 1)
      · rw [(flatR_new h h').2]; omega
      · rw [(flatR_on h h').2]; omega
theorem cntR_pos {K : Int → Bool} (hK : K (-1) = false) {j : Nat} (h : K ((j : Int) - 1) = true) : 0 < cntR K j := by
  cases j with
  | zero => simp at h; rw [hK] at h; cases h
  | succ j =>
    have h1 : K (j : Int) = true := by have e : (((j + 1 : Nat) : Int) - 1) = (j : Int) := by omega
                                       rw [e] at h; exact h
    clear h
    induction j with
    | zero => rw [(flatR_new h1 (by simpa using hK)).2]; omega
    | succ j ih =>
      cases h' : K (((j + 1 : Nat) : Int) - 1)
      · rw [(flatR_new h1 h').2]; omega
      · rw [(flatR_on h1 h').2]
        exact ih (by have e : (((j + 1 : Nat) : Int) - 1) = (j : Int) := by omega
                     rw [e] at h'; exact h')
/-- What a call that answers a slice of runs of its own comes to. -/
def GivesRuns (w : World) (n : Nat) (l : List Int) (e : Ending) (w' : World) : Prop :=
  ∃ v, e = .returned v ∧ w'.ownsRow w.heap.size 123 2 v n (l.map (Value.int .i64)) ∧ Below w.heap.size w w'
def runsS (f : Nat → Int) : List Int := flatR (hasI f) 256
def runsN (f : Nat → Int) : Nat := cntR (hasI f) 256
theorem info39 : (Tryd.prog.info? 123).map (fun i => (i.zero, i.size, i.bytes)) = some (some (.agg #[.int .i64 0, .int .i64 0]), 2, 16) := by kernel_rfl
theorem take_set_last (l : List Value) (k : Nat) (x : Value) (h0 : 0 < k) (h : k ≤ l.length) : (l.set (k - 1) x).take k = (l.take k).dropLast ++ [x] := by
  rw [List.take_set]
  obtain ⟨m, rfl⟩ : ∃ m, k = m + 1 := ⟨k - 1, by omega⟩
  simp only [Nat.add_sub_cancel]
  have hl : m < l.length := by omega
  rw [List.take_succ_eq_append_getElem hl, List.dropLast_concat]
  rw [List.set_append_right _ _ (by simp; omega)]
  simp [Nat.min_eq_left (Nat.le_of_lt hl)]
theorem own_last {w : World} {base g cap m j : Nat} {cur : Array Value} {l : List Int} (hl : (l.map (Value.int .i64)).length = (m + 1) * 2) (hg : base ≤ g) (hh : w.heap[g]? = some (.cells cur 123 (0, 0))) (h1 : m + 1 ≤ cap) (h2 : cap ≤ maxLen)
    (h3 : cur.size = cap * 2) (h4 : cur.toList.take ((m + 1) * 2) = l.map (Value.int .i64)) :
    (w.setCell ⟨g, m * 2 + 1, none⟩ (.int .i64 (j : Int))).ownsRow base 123 2 (.slice (some ⟨g, 0, none⟩) (m + 1) cap) (m + 1) ((l.dropLast ++ [(j : Int)]).map (Value.int .i64)) := by
  have hll : l.length = (m + 1) * 2 := by simpa using hl
  refine ⟨by simp; omega, Or.inr ⟨g, cap, _, rfl, hg, heap_setCell_same _ _ _ _ _ _ hh, h1, h2, by simp [h3], ?_⟩⟩
  have e := take_set_last cur.toList ((m + 1) * 2) (.int .i64 (j : Int)) (by omega) (by simp; omega)
  rw [h4] at e
  have e2 : (m + 1) * 2 - 1 = m * 2 + 1 := by omega
  rw [e2] at e
  rw [Array.toList_setIfInBounds, e]
  simp [List.map_dropLast]
set_option maxRecDepth 100000 in
set_option maxHeartbeats 400000 in
theorem runs_any (f : Nat → Int) (w : World) : Calls Tryd.prog 78 #[SV f] w (GivesRuns w (runsN f) (runsS f)) := by
  obtain ⟨i0, hi, hz0, hz1, hz2⟩ := info_parts info39
  have HM : Hid (hasI f (-1) = false) := Lib.hid (hasI_out (by omega))
  go_enter Tryd.func78, Tryd.ntmps78
  go_wp2
  go_loopw [3, 5] (fun v i wr => ∃ j : Nat, j ≤ 256 ∧ i = .int .i64 j ∧ wr.ownsRow (w.heap.size + 1) 123 2 v (cntR (hasI f) j) ((flatR (hasI f) j).map (Value.int .i64)) ∧ wr.heap[w.heap.size]? = some (.cells (row4 f) 25 (0, 0)) ∧ w.heap.size + 1 ≤ wr.heap.size ∧ Below w.heap.size w wr) (fun _ i _ => 256 - (intOf i).toNat)
  case atStart => exact ⟨0, by omega, rfl, World.ownsRow_nil _ _ _ _, heap_alloc_new _ _, by simp, (Below.refl _ _).alloc (Nat.le_refl _) _⟩
  case round =>
    obtain ⟨j, hj, rfl, hown, hc, hs, hb⟩ := hrel
    by_cases hlt : j < 256
    · have HC := Lib.hid hc
      have c0 := cell4 hc 0 (by omega)
      have c1 := cell4 hc 1 (by omega)
      have c2 := cell4 hc 2 (by omega)
      have c3 := cell4 hc 3 (by omega)
      have hlen := cntR_le (hasI f) j
      clear hc
      go_wp2_with fail
      refine (has_any f (j : Int) _).mono ?_
      rintro e w1 ⟨rfl, hb1⟩
      have hown1 := ownsRow_below hown hb1
      have hB1 : Below w.heap.size w w1 := hb.trans (hb1.mono hb.size)
      have HC1 := Lib.hid ((hb1.block _ (by omega)).trans HC.out)
      have hs1 : w.heap.size + 1 ≤ w1.heap.size := Nat.le_trans hs hb1.size
      clear c0 c1 c2 c3 hown hb hs hb1 HC
      cases hK : hasI f (j : Int)
      · have HK := Lib.hid (flatR_no hK); clear hK
        go_wp2
        go_roundw
        case rel => exact ⟨j + 1, by omega, by go_num, by rw [HK.out.1, HK.out.2]; exact hown1, HC1.out, hs1, hB1⟩
        case measure => simp [intOf]; omega
      · have HK0 := Lib.hid hK; clear hK
        have c0 := cell4 HC1.out 0 (by omega)
        have c1 := cell4 HC1.out 1 (by omega)
        have c2 := cell4 HC1.out 2 (by omega)
        have c3 := cell4 HC1.out 3 (by omega)
        go_wp2_with fail
        refine (has_any f ((j : Int) - 1) _).mono ?_
        rintro e w2 ⟨rfl, hb1⟩
        have hown2 := ownsRow_below hown1 hb1
        have hB2 : Below w.heap.size w w2 := hB1.trans (hb1.mono hB1.size)
        have HC2 := Lib.hid ((hb1.block _ (by omega)).trans HC1.out)
        have hs2 : w.heap.size + 1 ≤ w2.heap.size := Nat.le_trans hs1 hb1.size
        clear c0 c1 c2 c3 hown1 hB1 hs1 hb1 HC1
        cases hK' : hasI f ((j : Int) - 1)
        · have HK := Lib.hid (flatR_new HK0.out hK'); clear hK'
          go_wp2_with (first | (at_builtin; refine wpList_append_own _ rfl _ _ 121 rfl (w.heap.size + 1) 123 i0 (.agg #[.int .i64 0, .int .i64 0]) 2 16 Tryd.underlying121 hi hz0 hz1 hz2 rfl (by decide) _ _ _ rfl (hown2.alloc _) ⟨w2.heap.size, 0, none⟩ 1 1 [.int .i64 (j : Int), .int .i64 (j : Int)] rfl rfl ?c1 ?c2 ?c3 ?c4 ?c5 ?_))
          case c1 => exact World.news_of_block (cs := #[.int .i64 (j : Int), .int .i64 (j : Int)]) (t := 123) (fr := (0, 0)) (heap_alloc_new _ _)
          case c2 => intro u hu; simp at hu; subst hu; rfl
          case c3 => unfold maxLen; omega
          case c4 => omega
          case c5 => simp; omega
          · intro v' w3 hown3 hgrow _
            have hB3 : Below w.heap.size w w3 := (hB2.alloc (by omega) _).grown hgrow (by simp; omega) (fun k hk => by have := own_ge hown2 k hk; omega)
            have HC3 := Lib.hid ((hgrow.block w.heap.size (by simp; omega) (fun e => by have := own_ge hown2 _ e.symm; omega)).trans ((Below.heap_alloc _ _ _ (by omega)).trans HC2.out))
            have hs3 : w.heap.size + 1 ≤ w3.heap.size := by have := hgrow.size; simp at this; omega
            clear hgrow hown2 hB2 HC2 hs2
            go_wp2
            go_roundw
            case rel => exact ⟨j + 1, by omega, by go_num, by rw [HK.out.1, HK.out.2]; simpa using hown3, HC3.out, hs3, hB3⟩
            case measure => simp [intOf]; omega
        · have HK := Lib.hid (flatR_on HK0.out hK')
          have hpos := cntR_pos HM.out hK'
          clear hK'
          obtain ⟨hl, ⟨_, h0⟩ | ⟨g, cap, cur, hv, hg, hh, h1, h2, h3, h4⟩⟩ := hown2
          · omega
          · obtain ⟨m, hm⟩ : ∃ m, cntR (hasI f) j = m + 1 := ⟨cntR (hasI f) j - 1, by omega⟩
            rw [hm] at hl hv h1 h4
            have HM1 := Lib.hid hm
            have HH := Lib.hid hh
            have H3 := Lib.hid h3
            have H4 := Lib.hid h4
            have HL := Lib.hid hl
            have hcx : ∃ y, w2.cell? ⟨g, m * 2 + 1, none⟩ = some y := by
              rw [cell_of_row w2 g _ _ _ _ hh]
              exact ⟨_, Array.getElem?_eq_getElem (by omega)⟩
            obtain ⟨y, hcy⟩ := hcx
            have hfz := frozen_of_row w2 g (m * 2 + 1) _ _ hh
            have hm256 : m < 256 := by omega
            rw [hv]
            clear hm hh h3 h4 hl hv hpos hlen
            go_wp2
            go_roundw
            case rel =>
              refine ⟨j + 1, by omega, by go_num, ?_, ?_, by simp; omega, hB2.setCell (by dsimp only; omega) _⟩
              · rw [HK.out.1, HK.out.2, HM1.out]
                exact own_last HL.out hg HH.out h1 h2 H3.out H4.out
              · rw [heap_setCell_other _ _ _ _ (by dsimp only; omega)]; exact HC2.out
            case measure => simp [intOf]; omega
    · obtain rfl : j = 256 := by omega
      go_wp2
      go_ret
      exact ⟨_, rfl, ownsRow_base hown (by omega), hb⟩
/-- Are two sets the same, word by word? -/
def eqS (f g : Nat → Int) : Bool := (f 0 == g 0) && ((f 1 == g 1) && ((f 2 == g 2) && (f 3 == g 3)))
theorem guard24 : Tryd.prog.eqGuardType Tryd.prog.depth 25 = false := by kernel_rfl
theorem guard39 : Tryd.prog.eqGuardType Tryd.prog.depth 123 = false := by kernel_rfl
theorem info22 : (Tryd.prog.info? 23).map (fun i => (i.zero, i.size, i.bytes)) = some (some (.int .u64 0), 1, 8) := by kernel_rfl
theorem cells22 : Tryd.prog.cellsOf 23 = 1 := by kernel_rfl
theorem cells3 : Tryd.prog.cellsOf 3 = 1 := by kernel_rfl
theorem eql24 (f g : Nat → Int) (w : World) : Sem.run Tryd.prog (binOp .eql 25 (SV f) (SV g)) w = .ok (.bool (eqS f g)) w := by
  obtain ⟨i0, hi, _, _, _⟩ := info_parts info22
  rw [run_eql_struct, run_equalIn_array w 9999 _ _ Tryd.underlying25 hi, cells22]
  have h0 : ∀ w, (part 23 (row4 f) 0).run Tryd.prog w = .ok (.int .u64 (f 0)) w := fun _ => by kernel_rfl
  have h1 : ∀ w, (part 23 (row4 f) 1).run Tryd.prog w = .ok (.int .u64 (f 1)) w := fun _ => by kernel_rfl
  have h2 : ∀ w, (part 23 (row4 f) 2).run Tryd.prog w = .ok (.int .u64 (f 2)) w := fun _ => by kernel_rfl
  have h3 : ∀ w, (part 23 (row4 f) 3).run Tryd.prog w = .ok (.int .u64 (f 3)) w := fun _ => by kernel_rfl
  have k0 : ∀ w, (part 23 (row4 g) 0).run Tryd.prog w = .ok (.int .u64 (g 0)) w := fun _ => by kernel_rfl
  have k1 : ∀ w, (part 23 (row4 g) 1).run Tryd.prog w = .ok (.int .u64 (g 1)) w := fun _ => by kernel_rfl
  have k2 : ∀ w, (part 23 (row4 g) 2).run Tryd.prog w = .ok (.int .u64 (g 2)) w := fun _ => by kernel_rfl
  have k3 : ∀ w, (part 23 (row4 g) 3).run Tryd.prog w = .ok (.int .u64 (g 3)) w := fun _ => by kernel_rfl
  have e0 : ∀ (a b : Int) w, (Op.equalIn 9999 23 (.int .u64 a) (.int .u64 b)).run Tryd.prog w = .ok (a == b) w := fun a b w => run_equalIn_int w 9998 23 .u64 .u64 a b Tryd.underlying23
  have hr : List.range 4 = [0, 1, 2, 3] := rfl
  rw [hr]
  show (Sem.run Tryd.prog (Op.eqItems 9999 23 1 (row4 f) (row4 g) [0, 1, 2, 3]) w).andThen _ = _
  clear hi
  by_cases p0 : f 0 = g 0 <;> by_cases p1 : f 1 = g 1 <;> by_cases p2 : f 2 = g 2 <;> by_cases p3 : f 3 = g 3 <;> simp [Op.eqItems, eqS, *]
theorem eql39 (a b c d : Int) (w : World) : Sem.run Tryd.prog (binOp .eql 123 (.agg #[.int .i64 a, .int .i64 b]) (.agg #[.int .i64 c, .int .i64 d])) w = .ok (.bool ((a == c) && (b == d))) w := by
  obtain ⟨i0, hi, _, _, _⟩ := info_parts info3
  rw [run_eql_struct, run_equalIn_array w 9999 _ _ Tryd.underlying123 hi, cells3]
  have h0 : ∀ (x y : Int) w, (part 3 #[.int .i64 x, .int .i64 y] 0).run Tryd.prog w = .ok (.int .i64 x) w := fun _ _ _ => by kernel_rfl
  have h1 : ∀ (x y : Int) w, (part 3 #[.int .i64 x, .int .i64 y] 1).run Tryd.prog w = .ok (.int .i64 y) w := fun _ _ _ => by kernel_rfl
  have e0 : ∀ (a b : Int) w, (Op.equalIn 9999 3 (.int .i64 a) (.int .i64 b)).run Tryd.prog w = .ok (a == b) w := fun a b w => run_equalIn_int w 9998 3 .i64 .i64 a b Tryd.underlying3
  have hr : List.range 2 = [0, 1] := rfl
  rw [hr]
  show (Sem.run Tryd.prog (Op.eqItems 9999 3 1 _ _ [0, 1]) w).andThen _ = _
  clear hi
  by_cases p0 : a = c <;> by_cases p1 : b = d <;> simp [Op.eqItems, *]
theorem row_cells {w : World} {base e size n : Nat} {v : Value} {xs : List Value} (h : w.ownsRow base e size v n xs) (hn : 0 < n) :
    ∃ g cap, v = .slice (some ⟨g, 0, none⟩) n cap ∧ base ≤ g ∧ g < w.heap.size ∧ n ≤ cap ∧ cap ≤ maxLen ∧ ∀ j u, xs[j]? = some u → w.cell? ⟨g, j, none⟩ = some u := by
  obtain ⟨hl, ⟨_, h0⟩ | ⟨g, cap, cur, hv, hg, hh, h1, h2, h3, h4⟩⟩ := h
  · omega
  · refine ⟨g, cap, hv, hg, ?_, h1, h2, fun j u hu => ?_⟩
    · rcases Nat.lt_or_ge g w.heap.size with h | h
      · exact h
      · rw [Array.getElem?_eq_none h] at hh; cases hh
    · rw [cell_of_row _ _ _ _ _ _ hh]
      have hj : j < n * size := by
        rcases Nat.lt_or_ge j (n * size) with h | h
        · exact h
        · rw [List.getElem?_eq_none (by omega)] at hu; cases hu
      rw [← h4, List.getElem?_take, if_pos hj] at hu
      simpa using hu
theorem row_slice {w : World} {base e size n : Nat} {v : Value} {xs : List Value} (h : w.ownsRow base e size v n xs) : ∃ a c, v = .slice a n c := by
  obtain ⟨_, ⟨rfl, rfl⟩ | ⟨g, cap, cur, rfl, _⟩⟩ := h
  · exact ⟨_, _, rfl⟩
  · exact ⟨_, _, rfl⟩
end Go.Proofs.YtnfchlkdppblfaaDoor
