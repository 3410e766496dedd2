/- Contracts of the landed code's fits and room, for any pattern. -/
import Derived.Test.YtbahadgcmaabcaaT
namespace Go.Proofs.Ytbahadgcmaabcaa
open Go.RowKit
theorem Lives.now {w w' : World} {t : Tr} (h : Lives w w.heap.size t) (hb : Below w.heap.size w w') : Lives w' w'.heap.size t := (h.below hb).mono hb.size
theorem box_kept {w w1 : World} {o : Obj} (hb : Below (w.alloc o).heap.size (w.alloc o) w1) : w1.heap[w.heap.size]? = some o := (hb.block _ (by simp)).trans (heap_alloc_new _ _)
theorem box_below {w w1 : World} {o : Obj} (hb : Below (w.alloc o).heap.size (w.alloc o) w1) : Below w.heap.size w w1 := ((Below.refl w.heap.size w).alloc (Nat.le_refl _) o).trans (hb.mono (by simp))
/-- Is a pattern, its kids aside, as in the table? -/
def fitsB (t : Tr) : Bool :=
  if t.k = 2 then !eqS t.s z0 && (plainB z0 t.lo t.hi && decide (t.n = 0))
  else if t.k = 1 then plainB t.s t.lo t.hi && decide (t.n = 0)
  else if t.k = 5 then countsB t.lo t.hi && (plainB t.s 0 0 && decide (t.n = 1))
  else if t.k = 3 ∨ t.k = 4 then plainB t.s t.lo t.hi && (decide (2 ≤ t.n) && !anyTo (fun i => decide ((t.kid i).k = t.k)) t.n)
  else false
theorem alloc_below (w : World) (o : Obj) : Below w.heap.size w (w.alloc o) := (Below.refl _ _).alloc (Nat.le_refl _) _
set_option maxRecDepth 100000 in
set_option maxHeartbeats 1000000 in
theorem fits_bytes (s : Nat → Int) (lo hi : Int) (a : Option Addr) (n cap : Nat) (w : World) :
    Calls Try.prog 51 #[nodeV 2 s lo hi (.slice a n cap)] w fun e w' => e = .returned (.bool (!eqS s z0 && (plainB z0 lo hi && decide (n = 0)))) ∧ Below w.heap.size w w' := by
  cases he : eqS s z0
  · have hq := eqS_z s he
    obtain ⟨p, hp⟩ : ∃ p, p = plainB z0 lo hi := ⟨_, rfl⟩
    rw [← hp]
    have HP := Lib.hid hp
    clear hp he
    go_enter Try.func51, Try.ntmps51
    go_wp2_with fail
    refine (plain_any 2 z0 lo hi (.slice a n cap) _).mono ?_
    rintro e w1 ⟨rfl, hb1⟩
    rw [← HP.out]
    have d7 := (cell8 (s := z0) (box_kept hb1)).2.2.2.2.2.2.2
    have HB := Lib.hid (box_below hb1)
    clear hb1
    cases p
    · go_wp2
      go_ret
      exact ⟨rfl, HB.out⟩
    · by_cases hn : n = 0
      · subst hn
        go_wp2
        go_ret
        exact ⟨rfl, HB.out⟩
      · have hn1 : ((n : Int) == 0) = false := by simp [hn]
        have HX := Lib.hid (show (!false && (true && decide (n = 0))) = false by simp [hn])
        go_wp2
        go_ret
        exact ⟨ret_bool HX.out.symm, HB.out⟩
  · have hq := eqS_z s he
    clear he
    go_enter Try.func51, Try.ntmps51
    go_wp2
    go_ret
    exact ⟨rfl, alloc_below _ _⟩
set_option maxRecDepth 100000 in
set_option maxHeartbeats 1000000 in
theorem fits_empty (s : Nat → Int) (lo hi : Int) (a : Option Addr) (n cap : Nat) (w : World) :
    Calls Try.prog 51 #[nodeV 1 s lo hi (.slice a n cap)] w fun e w' => e = .returned (.bool (plainB s lo hi && decide (n = 0))) ∧ Below w.heap.size w w' := by
  obtain ⟨p, hp⟩ : ∃ p, p = plainB s lo hi := ⟨_, rfl⟩
  rw [← hp]
  have HP := Lib.hid hp
  clear hp
  go_enter Try.func51, Try.ntmps51
  go_wp2_with fail
  refine (plain_any 1 s lo hi (.slice a n cap) _).mono ?_
  rintro e w1 ⟨rfl, hb1⟩
  rw [← HP.out]
  have d7 := (cell8 (box_kept hb1)).2.2.2.2.2.2.2
  have HB := Lib.hid (box_below hb1)
  clear hb1
  cases p
  · go_wp2
    go_ret
    exact ⟨rfl, HB.out⟩
  · by_cases hn : n = 0
    · subst hn
      go_wp2
      go_ret
      exact ⟨rfl, HB.out⟩
    · have hn1 : ((n : Int) == 0) = false := by simp [hn]
      have HX := Lib.hid (show (true && decide (n = 0)) = false by simp [hn])
      go_wp2
      go_ret
      exact ⟨ret_bool HX.out.symm, HB.out⟩
set_option maxRecDepth 100000 in
set_option maxHeartbeats 1000000 in
theorem fits_rep (s : Nat → Int) (lo hi : Int) (a : Option Addr) (n cap : Nat) (w : World) :
    Calls Try.prog 51 #[nodeV 5 s lo hi (.slice a n cap)] w fun e w' => e = .returned (.bool (countsB lo hi && (plainB s 0 0 && decide (n = 1)))) ∧ Below w.heap.size w w' := by
  obtain ⟨p, hp⟩ : ∃ p, p = plainB s 0 0 := ⟨_, rfl⟩
  obtain ⟨q, hq⟩ : ∃ p, p = countsB lo hi := ⟨_, rfl⟩
  rw [← hp, ← hq]
  have HP := Lib.hid hp
  have HQ := Lib.hid hq
  clear hp hq
  go_enter Try.func51, Try.ntmps51
  go_wp2_with fail
  refine (counts_any 5 s lo hi (.slice a n cap) _).mono ?_
  rintro e w1 ⟨rfl, hb1⟩
  rw [← HQ.out]
  have HB1 := Lib.hid (box_below hb1)
  have HK := Lib.hid (box_kept hb1)
  have hsz : w.heap.size < w1.heap.size := by have := hb1.size; simp at this; omega
  clear hb1
  cases q
  · go_wp2
    go_ret
    exact ⟨rfl, HB1.out⟩
  · obtain ⟨_, _, _, _, _, b5, b6, _⟩ := cell8 HK.out
    have HK1 := Lib.hid (heap_setCell_same w1 w.heap.size 5 _ _ (.int .i64 0) HK.out)
    have HK2 := Lib.hid (heap_setCell_same _ w.heap.size 6 _ _ (.int .i64 0) HK1.out)
    obtain ⟨e0, e1, e2, e3, e4, e5, e6, e7⟩ := cell8 (w := (w1.setCell ⟨w.heap.size, 5, none⟩ (.int .i64 0)).setCell ⟨w.heap.size, 6, none⟩ (.int .i64 0)) (g := w.heap.size) (k := 5) (s := s) (lo := 0) (hi := 0) (v := .slice a n cap) (e := 66) (by rw [HK2.out]; rfl)
    have f5 := frozen_of_row _ _ 5 _ _ HK.out
    have f6 := frozen_of_row _ _ 6 _ _ HK.out
    have f6' := frozen_of_row _ _ 6 _ _ HK1.out
    go_wp2_with fail
    refine (plain_any 5 s 0 0 (.slice a n cap) _).mono ?_
    rintro e w2 ⟨rfl, hb2⟩
    rw [← HP.out]
    have d7 := (hb2.cell (p := ⟨w.heap.size, 7, none⟩) (by simp; omega)).trans e7
    have HB := Lib.hid (show Below w.heap.size w w2 from ((HB1.out.setCell (p := ⟨w.heap.size, 5, none⟩) (Nat.le_refl _) _).setCell (p := ⟨w.heap.size, 6, none⟩) (Nat.le_refl _) _).trans (hb2.mono (by simp; omega)))
    clear hb2 e0 e1 e2 e3 e4 e5 e6 e7
    cases p
    · go_wp2
      go_ret
      exact ⟨rfl, HB.out⟩
    · by_cases hn : n = 1
      · subst hn
        go_wp2
        go_ret
        exact ⟨rfl, HB.out⟩
      · have hn1 : ((n : Int) == 1) = false := by simp; omega
        have HX := Lib.hid (show (true && (true && decide (n = 1))) = false by simp [hn])
        go_wp2
        go_ret
        exact ⟨ret_bool HX.out.symm, HB.out⟩
set_option maxRecDepth 100000 in
set_option maxHeartbeats 1000000 in
theorem fits_many (k : Int) (hk : k = 3 ∨ k = 4) (s : Nat → Int) (lo hi : Int) (a : Option Addr) (n cap : Nat) (kid : Nat → Tr) (w : World) (hm : n ≤ maxLen) (h : Hid (0 < n → ∃ g off, a = some ⟨g, off, none⟩ ∧ g < w.heap.size ∧ ∀ i, i < n → At8 w g (off + i * 8) (kid i))) :
    Calls Try.prog 51 #[nodeV k s lo hi (.slice a n cap)] w fun e w' => e = .returned (.bool (plainB s lo hi && (decide (2 ≤ n) && !anyTo (fun i => decide ((kid i).k = k)) n))) ∧ Below w.heap.size w w' := by
  obtain ⟨p, hp⟩ : ∃ p, p = plainB s lo hi := ⟨_, rfl⟩
  obtain ⟨q, hq⟩ : ∃ p, p = anyTo (fun i => decide ((kid i).k = k)) n := ⟨_, rfl⟩
  rw [← hp, ← hq]
  have HP := Lib.hid hp
  have HQ := Lib.hid hq
  clear hp hq
  rcases hk with rfl | rfl
  all_goals
    go_enter Try.func51, Try.ntmps51
    go_wp2_with fail
    refine (plain_any _ s lo hi (.slice a n cap) _).mono ?_
    rintro e w1 ⟨rfl, hb1⟩
    rw [← HP.out]
    obtain ⟨d0, d1, d2, d3, d4, d5, d6, d7⟩ := cell8 (box_kept hb1)
    have HB := Lib.hid (box_below hb1)
    clear hb1
    cases p
    · go_wp2
      go_ret
      exact ⟨rfl, HB.out⟩
    · by_cases hn : 2 ≤ n
      · have hn1 : (2 : Int) ≤ (n : Int) := by omega
        have HN := Lib.hid (decide_eq_true hn)
        go_wp2_with fail
        refine (repeated_any _ s lo hi a n cap kid _ hm (Lib.hid fun hp => ?_)).mono ?_
        · obtain ⟨g, off, ha, hg, hc⟩ := h.out hp
          exact ⟨g, off, ha, Nat.lt_of_lt_of_le hg HB.out.size, fun i hi => (hc i hi).below hg HB.out⟩
        · rintro e w2 ⟨rfl, hb2⟩
          rw [← HQ.out]
          have HX := Lib.hid (show (true && (decide (2 ≤ n) && !q)) = !q by rw [HN.out]; rfl)
          go_wp2
          go_ret
          exact ⟨ret_bool HX.out.symm, HB.out.trans (hb2.mono HB.out.size)⟩
      · have hn1 : ¬ (2 : Int) ≤ (n : Int) := by omega
        have HX := Lib.hid (show (true && (decide (2 ≤ n) && !q)) = false by rw [decide_eq_false hn]; rfl)
        go_wp2
        go_ret
        first | exact ⟨rfl, HB.out⟩ | exact ⟨ret_bool HX.out.symm, HB.out⟩
set_option maxRecDepth 100000 in
set_option maxHeartbeats 1000000 in
theorem fits_else (k : Int) (h1 : k ≠ 1) (h2 : k ≠ 2) (h3 : k ≠ 3) (h4 : k ≠ 4) (h5 : k ≠ 5) (s : Nat → Int) (lo hi : Int) (v : Value) (w : World) :
    Calls Try.prog 51 #[nodeV k s lo hi v] w fun e w' => e = .returned (.bool false) ∧ Below w.heap.size w w' := by
  have q1 : (k == 1) = false := by simp [h1]
  have q2 : (k == 2) = false := by simp [h2]
  have q3 : (k == 3) = false := by simp [h3]
  have q4 : (k == 4) = false := by simp [h4]
  have q5 : (k == 5) = false := by simp [h5]
  go_enter Try.func51, Try.ntmps51
  go_wp2
  go_ret
  exact ⟨rfl, alloc_below _ _⟩
theorem fits_any (t : Tr) (w : World) (h : Lives w w.heap.size t) : Calls Try.prog 51 #[t.val] w fun e w' => e = .returned (.bool (fitsB t)) ∧ Below w.heap.size w w' := by
  cases t with
  | nul => exact h.elim
  | node k s lo hi a n cap kid =>
  obtain ⟨_, hcap, hm, hc, _⟩ := h
  show Calls Try.prog 51 #[nodeV k s lo hi (.slice a n cap)] w fun e w' => e = .returned (.bool (if k = 2 then !eqS s z0 && (plainB z0 lo hi && decide (n = 0)) else if k = 1 then plainB s lo hi && decide (n = 0) else if k = 5 then countsB lo hi && (plainB s 0 0 && decide (n = 1)) else if k = 3 ∨ k = 4 then plainB s lo hi && (decide (2 ≤ n) && !anyTo (fun i => decide ((kid i).k = k)) n) else false)) ∧ Below w.heap.size w w'
  split
  · subst k; exact fits_bytes s lo hi a n cap w
  · split
    · subst k; exact fits_empty s lo hi a n cap w
    · split
      · subst k; exact fits_rep s lo hi a n cap w
      · split
        · rename_i h; exact fits_many k h s lo hi a n cap kid w (by omega) (Lib.hid hc)
        · exact fits_else k (by omega) (by omega) (by omega) (by omega) (by omega) s lo hi _ w
/-- The sum over the numbers below n. -/
def sumTo (f : Nat → Nat) : Nat → Nat
  | 0 => 0
  | n + 1 => sumTo f n + f n
theorem sumTo_mono (f : Nat → Nat) {i n : Nat} (h : i ≤ n) : sumTo f i ≤ sumTo f n := by
  induction n with
  | zero => rw [show i = 0 by omega]; exact Nat.le_refl _
  | succ n ih =>
    rcases Nat.lt_or_ge n i with q | q
    · rw [show i = n + 1 by omega]; exact Nat.le_refl _
    · exact Nat.le_trans (ih q) (Nat.le_add_right _ _)
/-- How many patterns there are in a pattern. -/
def cnt : Tr → Nat
  | .node _ _ _ _ _ n _ kid => 1 + sumTo (fun i => cnt (kid i)) n
  | .nul => 1
theorem sumTo_ge {f : Nat → Nat} (h : ∀ i, 1 ≤ f i) : ∀ n, n ≤ sumTo f n
  | 0 => Nat.le_refl _
  | n + 1 => by have := sumTo_ge h n; have := h n; simp only [sumTo]; omega
theorem cnt_pos : ∀ t, 1 ≤ cnt t
  | .node _ _ _ _ _ _ _ _ => by simp only [cnt]; omega
  | .nul => Nat.le_refl _
/-- Is a pattern, with all in it, as in the table, and of at most so many levels? -/
def okT : Tr → Nat → Bool
  | .node k s lo hi a n cap kid, lv => decide (0 < lv) && (fitsB (.node k s lo hi a n cap kid) && allTo (fun i => okT (kid i) (lv - 1)) n)
  | .nul, _ => false
def roomI (t : Tr) (lv p : Nat) : Int := if okT t lv = true ∧ cnt t ≤ p then ((p - cnt t : Nat) : Int) else -1
theorem allTo_part {p : Nat → Bool} {n j : Nat} (h : allTo p n = true) (hj : j ≤ n) : allTo p j = true := allTo_iff.2 fun i hi => allTo_iff.1 h i (by omega)
theorem room_no {k : Int} {s : Nat → Int} {lo hi : Int} {a : Option Addr} {n cap : Nat} {kid : Nat → Tr} {lv p : Nat} (h : lv = 0 ∨ p ≤ n ∨ fitsB (.node k s lo hi a n cap kid) = false) : roomI (.node k s lo hi a n cap kid) lv p = -1 := by
  unfold roomI
  rw [if_neg]
  rintro ⟨h1, h2⟩
  simp only [okT, cnt, Bool.and_eq_true, decide_eq_true_eq] at h1 h2
  have := sumTo_ge (f := fun i => cnt (kid i)) (fun i => cnt_pos _) n
  rcases h with h | h | h
  · omega
  · omega
  · rw [h] at h1; cases h1.2.1
theorem room_stop {k : Int} {s : Nat → Int} {lo hi : Int} {a : Option Addr} {n cap : Nat} {kid : Nat → Tr} {lv p j : Nat} (hj : j < n) (h : ¬ (okT (kid j) (lv - 1) = true ∧ sumTo (fun i => cnt (kid i)) (j + 1) + 1 ≤ p)) : roomI (.node k s lo hi a n cap kid) lv p = -1 := by
  unfold roomI
  rw [if_neg]
  rintro ⟨h1, h2⟩
  simp only [okT, cnt, Bool.and_eq_true, decide_eq_true_eq] at h1 h2
  have := sumTo_mono (fun i => cnt (kid i)) (show j + 1 ≤ n by omega)
  exact h ⟨allTo_iff.1 h1.2.2 j hj, by omega⟩
theorem room_all {k : Int} {s : Nat → Int} {lo hi : Int} {a : Option Addr} {n cap : Nat} {kid : Nat → Tr} {lv p : Nat} (h0 : 0 < lv) (h1 : fitsB (.node k s lo hi a n cap kid) = true) (h2 : allTo (fun i => okT (kid i) (lv - 1)) n = true) (h3 : sumTo (fun i => cnt (kid i)) n + 1 ≤ p) :
    roomI (.node k s lo hi a n cap kid) lv p = (p : Int) - 1 - (sumTo (fun i => cnt (kid i)) n : Int) := by
  unfold roomI
  rw [if_pos]
  · simp only [cnt]; omega
  · simp only [okT, cnt, Bool.and_eq_true, decide_eq_true_eq]
    exact ⟨⟨h0, h1, h2⟩, by omega⟩
set_option maxRecDepth 100000 in
set_option maxHeartbeats 1000000 in
theorem room_any : ∀ (t : Tr) (lv p : Nat) (w : World), lv ≤ 20 → p ≤ 2000 → Lives w w.heap.size t →
    Calls Try.prog 35 #[t.val, .int .i64 lv, .int .i64 p] w fun e w' => e = .returned (.int .i64 (roomI t lv p)) ∧ Below w.heap.size w w' := by
  intro t
  induction t with
  | nul => intro lv p w hlv hp hL; exact hL.elim
  | node k s lo hi a n cap kid ih =>
  intro lv p w hlv hp hL
  show Calls Try.prog 35 #[nodeV k s lo hi (.slice a n cap), .int .i64 lv, .int .i64 p] w _
  have HL := Lib.hid hL
  obtain ⟨_, hcap, hm, hc, hkids⟩ := hL
  have HC := Lib.hid hc
  have HKS := Lib.hid hkids
  clear hc hkids
  have hm1 : n ≤ maxLen := by omega
  unfold maxLen at hm
  by_cases h0 : lv = 0
  · have HX := Lib.hid (room_no (k := k) (s := s) (lo := lo) (hi := hi) (a := a) (n := n) (cap := cap) (kid := kid) (lv := lv) (p := p) (Or.inl h0))
    subst h0
    go_enter Try.func35, Try.ntmps35
    go_wp2
    go_ret
    exact ⟨ret_int HX.out.symm, alloc_below _ _⟩
  · have h0' : ((lv : Int) == 0) = false := by simp [h0]
    by_cases h1 : p ≤ n
    · have HX := Lib.hid (room_no (k := k) (s := s) (lo := lo) (hi := hi) (a := a) (n := n) (cap := cap) (kid := kid) (lv := lv) (p := p) (Or.inr (Or.inl h1)))
      have h1' : (p : Int) - 1 < (n : Int) := by omega
      go_enter Try.func35, Try.ntmps35
      go_wp2
      go_ret
      exact ⟨ret_int HX.out.symm, alloc_below _ _⟩
    · have h1' : ¬ (p : Int) - 1 < (n : Int) := by omega
      obtain ⟨f, hf⟩ : ∃ f, f = fitsB (.node k s lo hi a n cap kid) := ⟨_, rfl⟩
      have HF := Lib.hid hf
      clear hf
      go_enter Try.func35, Try.ntmps35
      go_wp2_with fail
      refine (fits_any (.node k s lo hi a n cap kid) _ (HL.out.now (alloc_below _ _))).mono ?_
      rintro e w1 ⟨rfl, hb1⟩
      rw [← HF.out]
      have d7 := (cell8 (box_kept hb1)).2.2.2.2.2.2.2
      have HB := Lib.hid (box_below hb1)
      clear hb1
      cases f
      · have HX := Lib.hid (room_no (k := k) (s := s) (lo := lo) (hi := hi) (a := a) (n := n) (cap := cap) (kid := kid) (lv := lv) (p := p) (Or.inr (Or.inr HF.out.symm)))
        go_wp2
        go_ret
        exact ⟨ret_int HX.out.symm, HB.out⟩
      · go_wp2
        go_loopw [2, 28] (fun q c wr => ∃ j : Nat, j ≤ n ∧ c = .int .i64 j ∧ Hid (allTo (fun i => okT (kid i) (lv - 1)) j = true) ∧ sumTo (fun i => cnt (kid i)) j + 1 ≤ p ∧ q = .int .i64 ((p : Int) - 1 - (sumTo (fun i => cnt (kid i)) j : Int)) ∧ Below w.heap.size w wr) (fun _ c _ => n - (intOf c).toNat)
        case atStart => exact ⟨0, by omega, rfl, Lib.hid rfl, by simp only [sumTo]; omega, by simp [sumTo], HB.out⟩
        case round =>
          obtain ⟨j, hj, rfl, HA, hsum, rfl, hb⟩ := hrel
          by_cases hlt : j < n
          · obtain ⟨g, off, rfl, hg, hc⟩ := HC.out (by omega)
            obtain ⟨c0, c1, c2, c3, c4, c5, c6, c7⟩ := (hc j hlt).below hg hb
            have HI := Lib.hid (ih j (lv - 1) (p - 1 - sumTo (fun i => cnt (kid i)) j))
            have HQ1 := Lib.hid (show (lv : Int) - 1 = ((lv - 1 : Nat) : Int) by omega)
            have HQ2 := Lib.hid (show (p : Int) - 1 - (sumTo (fun i => cnt (kid i)) j : Int) = ((p - 1 - sumTo (fun i => cnt (kid i)) j : Nat) : Int) by omega)
            go_wp2_with fail
            rw [HQ1.out, HQ2.out]
            have hb3 := hb.alloc (o := .cells (row8 (kid j).k (kid j).s (kid j).lo (kid j).hi (.slice (kid j).a (kid j).n (kid j).cap)) 27) hb.size
            refine (HI.out _ (by omega) (by omega) ((HKS.out j hlt).now hb3)).mono ?_
            rintro e w2 ⟨rfl, hb2⟩
            have HB2 := Lib.hid (hb3.trans (hb2.mono hb3.size))
            clear hb2 hb3 hb c0 c1 c2 c3 c4 c5 c6 c7 hc
            by_cases hok : okT (kid j) (lv - 1) = true ∧ sumTo (fun i => cnt (kid i)) (j + 1) + 1 ≤ p
            · have HV := Lib.hid (show roomI (kid j) (lv - 1) (p - 1 - sumTo (fun i => cnt (kid i)) j) = (p : Int) - 1 - (sumTo (fun i => cnt (kid i)) (j + 1) : Int) by
                have h2 := hok.2; simp only [sumTo] at h2 ⊢; unfold roomI; rw [if_pos ⟨hok.1, by omega⟩]; omega)
              have HA1 := Lib.hid (show allTo (fun i => okT (kid i) (lv - 1)) (j + 1) = true by rw [allTo, HA.out, hok.1]; rfl)
              have hsum1 := hok.2
              clear hok
              rw [HV.out]
              obtain ⟨S, hS⟩ : ∃ S, S = sumTo (fun i => cnt (kid i)) (j + 1) := ⟨_, rfl⟩
              rw [← hS] at hsum1 ⊢
              have HS := Lib.hid hS
              clear hS
              have hge : ¬ (p : Int) - 1 - (S : Int) < 0 := by omega
              go_wp2
              go_roundw
              case rel => rw [HS.out] at hsum1 ⊢; exact ⟨j + 1, by omega, by go_num, HA1, hsum1, rfl, HB2.out⟩
              case measure => simp [intOf]; omega
            · have HV := Lib.hid (show roomI (kid j) (lv - 1) (p - 1 - sumTo (fun i => cnt (kid i)) j) = -1 by
                simp only [sumTo] at hok; unfold roomI; rw [if_neg]; rintro ⟨q1, q2⟩; exact hok ⟨q1, by omega⟩)
              have HX := Lib.hid (room_stop (k := k) (s := s) (lo := lo) (hi := hi) (a := some ⟨g, off, none⟩) (n := n) (cap := cap) (kid := kid) (lv := lv) (p := p) hlt hok)
              clear hok
              rw [HV.out]
              go_wp2
              go_ret
              exact ⟨ret_int HX.out.symm, HB2.out⟩
          · obtain rfl : n = j := by omega
            have HX := Lib.hid (room_all (k := k) (s := s) (lo := lo) (hi := hi) (a := a) (cap := cap) (kid := kid) (lv := lv) (p := p) (by omega) HF.out.symm HA.out hsum)
            go_wp2
            go_ret
            exact ⟨ret_int HX.out.symm, hb⟩
end Go.Proofs.Ytbahadgcmaabcaa
