/- Contracts of the landed code's null, enclosed and like, for any pattern. -/
import Derived.Test.YtadiphijfbpcnaaDoorP
namespace Go.Proofs.YtadiphijfbpcnaaDoor
open Go.RowKit
/-- Does a kid of that kind stand in brackets? -/
def enclB (k kind : Int) : Bool := if kind = 5 then decide (k = 3) || (decide (k = 5) || decide (k = 4)) else if kind = 3 then decide (k = 4) else false
set_option maxRecDepth 100000 in
set_option maxHeartbeats 1000000 in
theorem enclosed_any (k kind : Int) (s : Nat → Int) (lo hi : Int) (v : Value) (w : World) :
    Calls Tryd.prog 53 #[nodeV k s lo hi v, .int .i64 kind] w fun e w' => e = .returned (.bool (enclB k kind)) ∧ Below w.heap.size w w' := by
  by_cases h5 : kind = 5
  · subst h5
    by_cases k3 : k = 3
    · subst k3
      go_enter Tryd.func53, Tryd.ntmps53
      go_wp2
      go_ret
      exact ⟨rfl, alloc_below _ _⟩
    · have q3 : (k == 3) = false := by simp [k3]
      by_cases k5 : k = 5
      · subst k5
        go_enter Tryd.func53, Tryd.ntmps53
        go_wp2
        go_ret
        exact ⟨rfl, alloc_below _ _⟩
      · have q5 : (k == 5) = false := by simp [k5]
        have HX := Lib.hid (show enclB k 5 = (k == 4) by simp [enclB, k3, k5]; rfl)
        go_enter Tryd.func53, Tryd.ntmps53
        go_wp2
        go_ret
        exact ⟨ret_bool HX.out.symm, alloc_below _ _⟩
  · have q5 : (kind == 5) = false := by simp [h5]
    by_cases h3 : kind = 3
    · subst h3
      have HX := Lib.hid (show enclB k 3 = (k == 4) by simp [enclB]; rfl)
      go_enter Tryd.func53, Tryd.ntmps53
      go_wp2
      go_ret
      exact ⟨ret_bool HX.out.symm, alloc_below _ _⟩
    · have q3 : (kind == 3) = false := by simp [h3]
      have HX := Lib.hid (show enclB k kind = false by simp [enclB, h5, h3])
      go_enter Tryd.func53, Tryd.ntmps53
      go_wp2
      go_ret
      exact ⟨ret_bool HX.out.symm, alloc_below _ _⟩
/-- Does a pattern match the empty text? -/
def nullT : Tr → Bool
  | .node k _ lo _ _ n _ kid => if k = 1 then true else if k = 4 then anyTo (fun i => nullT (kid i)) n else if k = 5 then decide (lo = 0) || allTo (fun i => nullT (kid i)) n else if k = 3 then allTo (fun i => nullT (kid i)) n else false
  | .nul => false
set_option maxRecDepth 100000 in
set_option maxHeartbeats 1000000 in
theorem null_any : ∀ (t : Tr) (w : World), Lives w w.heap.size t → Calls Tryd.prog 33 #[t.val] w fun e w' => e = .returned (.bool (nullT t)) ∧ Below w.heap.size w w' := by
  intro t
  induction t with
  | nul => intro w hL; exact hL.elim
  | node k s lo hi a n cap kid ih =>
  intro w hL
  show Calls Tryd.prog 33 #[nodeV k s lo hi (.slice a n cap)] w _
  obtain ⟨_, hcap, hm, hc, hkids⟩ := hL
  have HC := Lib.hid hc
  have HKS := Lib.hid hkids
  clear hc hkids
  unfold maxLen at hm
  by_cases k1 : k = 1
  · subst k1
    go_enter Tryd.func33, Tryd.ntmps33
    go_wp2
    go_ret
    exact ⟨rfl, alloc_below _ _⟩
  · have q1 : (k == 1) = false := by simp [k1]
    by_cases k4 : k = 4
    · subst k4
      have HX := Lib.hid (show nullT (.node 4 s lo hi a n cap kid) = anyTo (fun i => nullT (kid i)) n from rfl)
      rw [HX.out]
      go_enter Tryd.func33, Tryd.ntmps33
      go_wp2
      go_loopw [20] (fun c wr => ∃ j : Nat, j ≤ n ∧ c = .int .i64 j ∧ Hid (anyTo (fun i => nullT (kid i)) j = false) ∧ Below w.heap.size w wr) (fun c _ => n - (intOf c).toNat)
      case atStart => exact ⟨0, by omega, rfl, Lib.hid rfl, alloc_below _ _⟩
      case round =>
        obtain ⟨j, hj, rfl, HA, hb⟩ := hrel
        by_cases hlt : j < n
        · obtain ⟨g, off, rfl, hg, hc⟩ := HC.out (by omega)
          obtain ⟨c0, c1, c2, c3, c4, c5, c6, c7⟩ := (hc j hlt).below hg hb
          go_wp2_with fail
          have hb3 := hb.alloc (o := .cells (row8 (kid j).k (kid j).s (kid j).lo (kid j).hi (.slice (kid j).a (kid j).n (kid j).cap)) 27) hb.size
          refine (ih j _ ((HKS.out j hlt).now hb3)).mono ?_
          rintro e w2 ⟨rfl, hb2⟩
          have HB2 := Lib.hid (hb3.trans (hb2.mono hb3.size))
          clear hb2 hb3 hb c0 c1 c2 c3 c4 c5 c6 c7 hc
          cases hN : nullT (kid j)
          · have HA1 := Lib.hid (show anyTo (fun i => nullT (kid i)) (j + 1) = false by rw [anyTo, HA.out, hN]; rfl)
            clear hN
            go_wp2
            go_roundw
            case rel => exact ⟨j + 1, by omega, by go_num, HA1, HB2.out⟩
            case measure => simp [intOf]; omega
          · have HA1 := Lib.hid (anyTo_yes (p := fun i => nullT (kid i)) hlt hN)
            clear hN
            go_wp2
            go_ret
            exact ⟨ret_bool HA1.out.symm, HB2.out⟩
        · obtain rfl : n = j := by omega
          go_wp2
          go_ret
          exact ⟨ret_bool HA.out.symm, hb⟩
    · have q4 : (k == 4) = false := by simp [k4]
      by_cases k53 : (k = 5 ∧ lo ≠ 0) ∨ k = 3
      · have HX := Lib.hid (show nullT (.node k s lo hi a n cap kid) = allTo (fun i => nullT (kid i)) n by
          rcases k53 with ⟨h, h'⟩ | h
          · simp only [nullT, h, h', decide_false, Bool.false_or]; simp
          · simp only [nullT, h]; simp)
        rw [HX.out]
        rcases k53 with ⟨rfl, h'⟩ | rfl
        all_goals
          try have hlo : (lo == 0) = false := by simp [h']
          go_enter Tryd.func33, Tryd.ntmps33
          go_wp2
          go_loopw [33] (fun c wr => ∃ j : Nat, j ≤ n ∧ c = .int .i64 j ∧ Hid (allTo (fun i => nullT (kid i)) j = true) ∧ Below w.heap.size w wr) (fun c _ => n - (intOf c).toNat)
          case atStart => exact ⟨0, by omega, rfl, Lib.hid rfl, alloc_below _ _⟩
          case round =>
            obtain ⟨j, hj, rfl, HA, hb⟩ := hrel
            by_cases hlt : j < n
            · obtain ⟨g, off, rfl, hg, hc⟩ := HC.out (by omega)
              obtain ⟨c0, c1, c2, c3, c4, c5, c6, c7⟩ := (hc j hlt).below hg hb
              go_wp2_with fail
              have hb3 := hb.alloc (o := .cells (row8 (kid j).k (kid j).s (kid j).lo (kid j).hi (.slice (kid j).a (kid j).n (kid j).cap)) 27) hb.size
              refine (ih j _ ((HKS.out j hlt).now hb3)).mono ?_
              rintro e w2 ⟨rfl, hb2⟩
              have HB2 := Lib.hid (hb3.trans (hb2.mono hb3.size))
              clear hb2 hb3 hb c0 c1 c2 c3 c4 c5 c6 c7 hc
              cases hN : nullT (kid j)
              · have HA1 := Lib.hid (allTo_not (p := fun i => nullT (kid i)) hlt hN)
                clear hN
                go_wp2
                go_ret
                exact ⟨ret_bool HA1.out.symm, HB2.out⟩
              · have HA1 := Lib.hid (show allTo (fun i => nullT (kid i)) (j + 1) = true by rw [allTo, HA.out, hN]; rfl)
                clear hN
                go_wp2
                go_roundw
                case rel => exact ⟨j + 1, by omega, by go_num, HA1, HB2.out⟩
                case measure => simp [intOf]; omega
            · obtain rfl : n = j := by omega
              go_wp2
              go_ret
              exact ⟨ret_bool HA.out.symm, hb⟩
      · by_cases k5 : k = 5
        · have hl : lo = 0 := by omega
          subst k5 hl
          go_enter Tryd.func33, Tryd.ntmps33
          go_wp2
          go_ret
          exact ⟨rfl, alloc_below _ _⟩
        · have k3 : k ≠ 3 := by omega
          have q5 : (k == 5) = false := by simp [k5]
          have q3 : (k == 3) = false := by simp [k3]
          have HX := Lib.hid (show nullT (.node k s lo hi a n cap kid) = false by simp [nullT, k1, k4, k5, k3])
          go_enter Tryd.func33, Tryd.ntmps33
          go_wp2
          go_ret
          exact ⟨ret_bool HX.out.symm, alloc_below _ _⟩
/-- Are two patterns, their kids aside, the same? -/
def likeB (t u : Tr) : Bool := decide (t.k = u.k) && (eqS t.s u.s && (decide (t.lo = u.lo) && (decide (t.hi = u.hi) && decide (t.n = u.n))))
theorem eqS_any (s s' : Nat → Int) {b : Bool} (h : eqS s s' = b) (w : World) : Sem.run Tryd.prog (binOp .eql 24 (SV s) (SV s')) w = .ok (.bool b) w := (eql24 s s' w).trans (by rw [h])
theorem alloc2_below (w : World) (o o' : Obj) : Below w.heap.size w ((w.alloc o).alloc o') := (alloc_below w o).alloc (by simp) _
set_option maxRecDepth 100000 in
set_option maxHeartbeats 1000000 in
theorem like_any (t u : Tr) (w : World) : Calls Tryd.prog 29 #[t.val, u.val] w fun e w' => e = .returned (.bool (likeB t u)) ∧ Below w.heap.size w w' := by
  show Calls Tryd.prog 29 #[nodeV t.k t.s t.lo t.hi (.slice t.a t.n t.cap), nodeV u.k u.s u.lo u.hi (.slice u.a u.n u.cap)] w fun e w' => e = .returned (.bool (decide (t.k = u.k) && (eqS t.s u.s && (decide (t.lo = u.lo) && (decide (t.hi = u.hi) && decide (t.n = u.n)))))) ∧ Below w.heap.size w w'
  generalize t.k = k
  generalize t.s = s
  generalize t.lo = lo
  generalize t.hi = hi
  generalize t.a = a
  generalize t.n = n
  generalize t.cap = cap
  generalize u.k = k'
  generalize u.s = s'
  generalize u.lo = lo'
  generalize u.hi = hi'
  generalize u.a = a'
  generalize u.n = n'
  generalize u.cap = cap'
  by_cases hk : k = k'
  · subst hk
    cases he : eqS s s'
    · have hq := eqS_any s s' he
      have HX := Lib.hid (show (decide (k = k) && (false && (decide (lo = lo') && (decide (hi = hi') && decide (n = n'))))) = false by simp)
      clear he
      go_enter Tryd.func29, Tryd.ntmps29
      go_wp2
      go_ret
      first | exact ⟨rfl, alloc2_below _ _ _⟩ | exact ⟨ret_bool HX.out.symm, alloc2_below _ _ _⟩
    · have hq := eqS_any s s' he
      clear he
      by_cases hl : lo = lo'
      · subst hl
        by_cases hh : hi = hi'
        · subst hh
          by_cases hn : n = n'
          · subst hn
            have HX := Lib.hid (show (decide (k = k) && (true && (decide (lo = lo) && (decide (hi = hi) && decide (n = n))))) = true by simp)
            go_enter Tryd.func29, Tryd.ntmps29
            go_wp2
            go_ret
            first | exact ⟨rfl, alloc2_below _ _ _⟩ | exact ⟨ret_bool HX.out.symm, alloc2_below _ _ _⟩
          · have hn1 : ((n : Int) == (n' : Int)) = false := by simp; omega
            have hn2 : (n == n') = false := by simp [hn]
            have HX := Lib.hid (show (decide (k = k) && (true && (decide (lo = lo) && (decide (hi = hi) && decide (n = n'))))) = false by simp [hn])
            go_enter Tryd.func29, Tryd.ntmps29
            go_wp2
            go_ret
            first | exact ⟨rfl, alloc2_below _ _ _⟩ | exact ⟨ret_bool HX.out.symm, alloc2_below _ _ _⟩
        · have hh1 : (hi == hi') = false := by simp [hh]
          have HX := Lib.hid (show (decide (k = k) && (true && (decide (lo = lo) && (decide (hi = hi') && decide (n = n'))))) = false by simp [hh])
          go_enter Tryd.func29, Tryd.ntmps29
          go_wp2
          go_ret
          first | exact ⟨rfl, alloc2_below _ _ _⟩ | exact ⟨ret_bool HX.out.symm, alloc2_below _ _ _⟩
      · have hh1 : (lo == lo') = false := by simp [hl]
        have HX := Lib.hid (show (decide (k = k) && (true && (decide (lo = lo') && (decide (hi = hi') && decide (n = n'))))) = false by simp [hl])
        go_enter Tryd.func29, Tryd.ntmps29
        go_wp2
        go_ret
        first | exact ⟨rfl, alloc2_below _ _ _⟩ | exact ⟨ret_bool HX.out.symm, alloc2_below _ _ _⟩
  · have hk1 : (k == k') = false := by simp [hk]
    have HX := Lib.hid (show (decide (k = k') && (eqS s s' && (decide (lo = lo') && (decide (hi = hi') && decide (n = n'))))) = false by simp [hk])
    go_enter Tryd.func29, Tryd.ntmps29
    go_wp2
    go_ret
    first | exact ⟨rfl, alloc2_below _ _ _⟩ | exact ⟨ret_bool HX.out.symm, alloc2_below _ _ _⟩
end Go.Proofs.YtadiphijfbpcnaaDoor
