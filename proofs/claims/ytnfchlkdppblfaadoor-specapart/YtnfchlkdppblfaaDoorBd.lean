/- Contract of the document's own right of layer 3: patterns without kids, and other ones. -/
import Derived.Test.YtnfchlkdppblfaaDoorBc
namespace Go.Proofs.YtnfchlkdppblfaaDoor
open Go.RowKit
set_option maxRecDepth 100000 in
theorem neqS_z (s : Nat → Int) {b : Bool} (h : eqS s z0 = b) (w : World) : Sem.run Tryd.prog (binOp .neq 25 (SV s) (.agg #[.int .u64 0, .int .u64 0, .int .u64 0, .int .u64 0])) w = .ok (.bool (!b)) w := neqS_any s z0 h w
set_option maxRecDepth 100000 in
theorem ok_fits {t : Tr} {lv : Nat} (h : fitsB t = false) : okT t lv = false := by
  cases t with
  | nul => rfl
  | node => simp [okT, h]
set_option maxRecDepth 100000 in
theorem ok_leaf {t : Tr} {lv : Nat} (h : fitsB t = true) (hn : t.n = 0) (hl : 0 < lv) : okT t lv = true := by
  cases t with
  | nul => simp [fitsB, Tr.k] at h
  | node k s lo hi a n cap kid =>
  have : n = 0 := hn
  subst this
  simp [okT, h, hl, allTo]
set_option maxRecDepth 100000 in
set_option maxHeartbeats 2000000 in
theorem right_zero (k : Int) (s : Nat → Int) (lo hi : Int) (v : Value) (w : World) : Calls Tryd.prog 49 #[nodeV k s lo hi v, .int .i64 0] w fun e w' => e = .returned (.bool false) ∧ Below w.heap.size w w' := by
  go_enter Tryd.func49, Tryd.ntmps49
  go_wp2
  go_ret
  exact ⟨rfl, alloc_below _ _⟩
set_option maxRecDepth 100000 in
set_option maxHeartbeats 4000000 in
theorem right_empty (s : Nat → Int) (lo hi : Int) (a : Option Addr) (n cap : Nat) (lv : Nat) (hlv : 0 < lv) (w : World) : Calls Tryd.prog 49 #[nodeV 1 s lo hi (.slice a n cap), .int .i64 lv] w fun e w' => e = .returned (.bool (plainB s lo hi && decide (n = 0))) ∧ Below w.heap.size w w' := by
  have hl1 : ¬ (lv : Int) < 1 := by omega
  obtain ⟨R, hR⟩ : ∃ R, R = (plainB s lo hi && decide (n = 0)) := ⟨_, rfl⟩
  rw [← hR]
  have HR := Lib.hid hR
  clear hR
  cases he : eqS s z0
  · have hq := neqS_z s he
    have HX := Lib.hid (show R = false by rw [HR.out]; simp [plainB, he])
    clear he
    go_enter Tryd.func49, Tryd.ntmps49
    go_wp2
    all_goals
      go_ret
      exact ⟨ret_bool HX.out.symm, alloc_below _ _⟩
  · have hq := neqS_z s he
    have HE := Lib.hid he
    clear he
    by_cases hp : lo = 0 ∧ hi = 0
    · obtain ⟨rfl, rfl⟩ := hp
      by_cases hn : n = 0
      · subst hn
        have HX := Lib.hid (show R = true by rw [HR.out]; simp [plainB, HE.out])
        go_enter Tryd.func49, Tryd.ntmps49
        go_wp2
        go_ret
        exact ⟨ret_bool HX.out.symm, alloc_below _ _⟩
      · have hn1 : ((n : Int) == 0) = false := by simp [hn]
        have HX := Lib.hid (show R = false by rw [HR.out]; simp [hn])
        go_enter Tryd.func49, Tryd.ntmps49
        go_wp2
        go_ret
        exact ⟨ret_bool HX.out.symm, alloc_below _ _⟩
    · have HX := Lib.hid (show R = false by rw [HR.out]; simp [plainB]; intro _ h1 h2; exact absurd ⟨h1, h2⟩ hp)
      have hc : (lo == 0) = false ∨ (lo = 0 ∧ (hi == 0) = false) := by simp; omega
      clear hp
      rcases hc with hc | ⟨rfl, hc⟩
      · go_enter Tryd.func49, Tryd.ntmps49
        go_wp2
        go_ret
        exact ⟨ret_bool HX.out.symm, alloc_below _ _⟩
      · go_enter Tryd.func49, Tryd.ntmps49
        go_wp2
        go_ret
        exact ⟨ret_bool HX.out.symm, alloc_below _ _⟩
set_option maxRecDepth 100000 in
set_option maxHeartbeats 4000000 in
theorem right_bytes (s : Nat → Int) (lo hi : Int) (a : Option Addr) (n cap : Nat) (lv : Nat) (hlv : 0 < lv) (w : World) : Calls Tryd.prog 49 #[nodeV 2 s lo hi (.slice a n cap), .int .i64 lv] w fun e w' => e = .returned (.bool (!eqS s z0 && (plainB z0 lo hi && decide (n = 0)))) ∧ Below w.heap.size w w' := by
  have hl1 : ¬ (lv : Int) < 1 := by omega
  obtain ⟨R, hR⟩ : ∃ R, R = (!eqS s z0 && (plainB z0 lo hi && decide (n = 0))) := ⟨_, rfl⟩
  rw [← hR]
  have HR := Lib.hid hR
  clear hR
  cases he : eqS s z0
  · have hq := neqS_z s he
    have HE := Lib.hid he
    clear he
    by_cases hp : lo = 0 ∧ hi = 0
    · obtain ⟨rfl, rfl⟩ := hp
      by_cases hn : n = 0
      · subst hn
        have HX := Lib.hid (show R = true by rw [HR.out, HE.out]; simp [plainB, eqS])
        go_enter Tryd.func49, Tryd.ntmps49
        go_wp2
        go_ret
        exact ⟨ret_bool HX.out.symm, alloc_below _ _⟩
      · have hn1 : ((n : Int) == 0) = false := by simp [hn]
        have HX := Lib.hid (show R = false by rw [HR.out]; simp [hn])
        go_enter Tryd.func49, Tryd.ntmps49
        go_wp2
        go_ret
        exact ⟨ret_bool HX.out.symm, alloc_below _ _⟩
    · have HX := Lib.hid (show R = false by rw [HR.out]; simp [plainB]; intro _ _ h1 h2; exact absurd ⟨h1, h2⟩ hp)
      have hc : (lo == 0) = false ∨ (lo = 0 ∧ (hi == 0) = false) := by simp; omega
      clear hp
      rcases hc with hc | ⟨rfl, hc⟩
      · go_enter Tryd.func49, Tryd.ntmps49
        go_wp2
        go_ret
        exact ⟨ret_bool HX.out.symm, alloc_below _ _⟩
      · go_enter Tryd.func49, Tryd.ntmps49
        go_wp2
        go_ret
        exact ⟨ret_bool HX.out.symm, alloc_below _ _⟩
  · have hq := neqS_z s he
    have HX := Lib.hid (show R = false by rw [HR.out, he]; rfl)
    clear he
    go_enter Tryd.func49, Tryd.ntmps49
    go_wp2
    all_goals
      go_ret
      exact ⟨ret_bool HX.out.symm, alloc_below _ _⟩
set_option maxRecDepth 100000 in
set_option maxHeartbeats 4000000 in
theorem right_else (k : Int) (h1 : k ≠ 1) (h2 : k ≠ 2) (h3 : k ≠ 3) (h4 : k ≠ 4) (h5 : k ≠ 5) (s : Nat → Int) (lo hi : Int) (v : Value) (lv : Nat) (hlv : 0 < lv) (w : World) : Calls Tryd.prog 49 #[nodeV k s lo hi v, .int .i64 lv] w fun e w' => e = .returned (.bool false) ∧ Below w.heap.size w w' := by
  have hl1 : ¬ (lv : Int) < 1 := by omega
  have q1 : (k == 1) = false := by simp [h1]
  have q2 : (k == 2) = false := by simp [h2]
  have q3 : (k == 3) = false := by simp [h3]
  have q4 : (k == 4) = false := by simp [h4]
  have q5 : (k == 5) = false := by simp [h5]
  cases he : eqS s z0
  all_goals
    have hq := neqS_z s he
    clear he
    go_enter Tryd.func49, Tryd.ntmps49
    go_wp2
    all_goals
      go_ret
      exact ⟨rfl, alloc_below _ _⟩
end Go.Proofs.YtnfchlkdppblfaaDoor
