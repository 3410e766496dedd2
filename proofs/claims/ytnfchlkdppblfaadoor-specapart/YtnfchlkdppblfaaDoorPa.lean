/- Texts are told apart: bytes, sets, counts. -/
import Derived.Test.YtnfchlkdppblfaaDoorM
namespace Go.Proofs.YtnfchlkdppblfaaDoor
open Go.RowKit
set_option maxRecDepth 100000 in
theorem hexd_inj {i j : Nat} (hi : i < 16) (hj : j < 16) (h : hexd i = hexd j) : i = j := by
  have : ∀ a b : Fin 16, hexd a.val = hexd b.val → a = b := by decide +kernel
  have := this ⟨i, hi⟩ ⟨j, hj⟩ h
  simpa using this
set_option maxRecDepth 100000 in
theorem u8_92 {b : Int} (h0 : 0 ≤ b) (h1 : b < 256) (c : UInt8) (h : UInt8.ofNat b.toNat = c) : b = (c.toNat : Int) := by rw [← u8_of h0 h1, h]
set_option maxRecDepth 100000 in
/-- No byte's text begins another's. -/
theorem byteT_inj {b c : Int} (hb : 0 ≤ b ∧ b < 256) (hc : 0 ≤ c ∧ c < 256) {r r' : List UInt8} (h : byteT b ++ r = byteT c ++ r') : b = c ∧ r = r' := by
  unfold byteT at h
  by_cases p : plainC b = true
  · by_cases q : plainC c = true
    · rw [if_pos p, if_pos q] at h
      simp only [List.cons_append, List.nil_append, List.cons.injEq] at h
      have h1 := u8_92 hb.1 hb.2 _ h.1
      rw [u8_of hc.1 hc.2] at h1
      exact ⟨h1, h.2⟩
    · rw [if_pos p, if_neg q] at h
      simp only [List.cons_append, List.nil_append, List.cons.injEq] at h
      have h1 := u8_92 hb.1 hb.2 _ h.1
      rw [h1] at p
      exact absurd p (by decide)
  · by_cases q : plainC c = true
    · rw [if_neg p, if_pos q] at h
      simp only [List.cons_append, List.nil_append, List.cons.injEq] at h
      have h1 := u8_92 hc.1 hc.2 _ h.1.symm
      rw [h1] at q
      exact absurd q (by decide)
    · rw [if_neg p, if_neg q] at h
      simp only [List.cons_append, List.nil_append, List.cons.injEq, true_and] at h
      obtain ⟨h1, h2, h3⟩ := h
      have e1 := hexd_inj (by omega) (by omega) h1
      have e2 := hexd_inj (by omega) (by omega) h2
      exact ⟨by omega, h3⟩
set_option maxRecDepth 100000 in
/-- How a byte's text begins: with a letter, a digit or the sign for hexadecimal. -/
theorem byteT_head {b : Int} (hb : 0 ≤ b ∧ b < 256) : ∃ c m, byteT b = c :: m ∧ c ≠ 40 ∧ c ≠ 41 ∧ c ≠ 45 ∧ c ≠ 91 ∧ c ≠ 93 ∧ c ≠ 123 ∧ c ≠ 124 := by
  unfold byteT
  by_cases p : plainC b = true
  · rw [if_pos p]
    refine ⟨_, _, rfl, ?_, ?_, ?_, ?_, ?_, ?_, ?_⟩ <;>
      (intro e; have h1 := u8_92 hb.1 hb.2 _ e; rw [h1] at p; exact absurd p (by decide))
  · rw [if_neg p]
    exact ⟨_, _, rfl, by decide, by decide, by decide, by decide, by decide, by decide, by decide⟩
/-- The text of runs. -/
def cls : List (Int × Int) → List UInt8
  | [] => []
  | x :: xs => byteT x.1 ++ ((if x.1 < x.2 then [45] ++ byteT x.2 else []) ++ cls xs)
set_option maxRecDepth 100000 in
theorem cls_append (xs ys : List (Int × Int)) : cls (xs ++ ys) = cls xs ++ cls ys := by
  induction xs with
  | nil => rfl
  | cons x xs ih => simp [cls, ih]
def pairsL (r : List Int) (n : Nat) : List (Int × Int) := (List.range n).map fun i => (lo r i, hi r i)
set_option maxRecDepth 100000 in
theorem cls_pairs (r : List Int) : ∀ n, catTo (runT r) n = cls (pairsL r n)
  | 0 => rfl
  | n + 1 => by
    rw [catTo, cls_pairs r n]
    simp only [pairsL, List.range_succ, List.map_append, List.map_cons, List.map_nil, cls_append]
    simp [cls, runT]
def okP (x : Int × Int) : Prop := 0 ≤ x.1 ∧ x.1 ≤ x.2 ∧ x.2 < 256
set_option maxRecDepth 100000 in
theorem cls_head {xs : List (Int × Int)} (h : ∀ x ∈ xs, okP x) (r : List UInt8) : ∃ c m, cls xs ++ 93 :: r = c :: m ∧ c ≠ 45 ∧ (xs ≠ [] → c ≠ 93) := by
  cases xs with
  | nil => exact ⟨93, r, rfl, by decide, fun h => absurd rfl h⟩
  | cons x xs =>
    have hx := h x (by simp)
    unfold okP at hx
    obtain ⟨c, m, hc, _, _, h45, _, h93, _⟩ := byteT_head (b := x.1) (by omega)
    refine ⟨c, m ++ ((if x.1 < x.2 then [45] ++ byteT x.2 else []) ++ cls xs) ++ 93 :: r, by rw [cls, hc]; simp, h45, fun _ => h93⟩
set_option maxRecDepth 100000 in
theorem cls_inj : ∀ {xs ys : List (Int × Int)}, (∀ x ∈ xs, okP x) → (∀ y ∈ ys, okP y) → ∀ {r r' : List UInt8}, cls xs ++ 93 :: r = cls ys ++ 93 :: r' → xs = ys ∧ r = r'
  | [], [], _, _, r, r', h => by simp [cls] at h; exact ⟨rfl, h⟩
  | [], y :: ys, _, hy, r, r', h => by
    obtain ⟨c, m, hc, _, h93⟩ := cls_head hy r'
    rw [hc] at h
    simp only [cls, List.nil_append, List.cons.injEq] at h
    exact absurd h.1.symm (h93 (by simp))
  | x :: xs, [], hx, _, r, r', h => by
    obtain ⟨c, m, hc, _, h93⟩ := cls_head hx r
    rw [hc] at h
    simp only [cls, List.nil_append, List.cons.injEq] at h
    exact absurd h.1 (h93 (by simp))
  | x :: xs, y :: ys, hx, hy, r, r', h => by
    have kx := hx x (by simp)
    have ky := hy y (by simp)
    unfold okP at kx ky
    have hxs : ∀ z ∈ xs, okP z := fun z hz => hx z (by simp [hz])
    have hys : ∀ z ∈ ys, okP z := fun z hz => hy z (by simp [hz])
    simp only [cls, List.append_assoc] at h
    obtain ⟨e1, h⟩ := byteT_inj (by omega) (by omega) h
    by_cases p : x.1 < x.2
    · by_cases q : y.1 < y.2
      · rw [if_pos p, if_pos q] at h
        simp only [List.cons_append, List.nil_append, List.cons.injEq, true_and, List.append_assoc] at h
        obtain ⟨e2, h⟩ := byteT_inj (by omega) (by omega) h
        obtain ⟨e3, e4⟩ := cls_inj hxs hys h
        exact ⟨by rw [e3, Prod.ext e1 e2], e4⟩
      · rw [if_pos p, if_neg q] at h
        obtain ⟨c, m, hc, h45, _⟩ := cls_head hys r'
        simp only [List.cons_append, List.nil_append] at h
        rw [hc] at h
        simp only [List.cons.injEq] at h
        exact absurd h.1.symm h45
    · by_cases q : y.1 < y.2
      · rw [if_neg p, if_pos q] at h
        obtain ⟨c, m, hc, h45, _⟩ := cls_head hxs r
        simp only [List.cons_append, List.nil_append] at h
        rw [hc] at h
        simp only [List.cons.injEq] at h
        exact absurd h.1 h45
      · rw [if_neg p, if_neg q] at h
        simp only [List.nil_append] at h
        obtain ⟨e3, e4⟩ := cls_inj hxs hys h
        exact ⟨by rw [e3, Prod.ext e1 (show x.2 = y.2 by omega)], e4⟩
set_option maxRecDepth 100000 in
theorem pairs_ok (s : Nat → Int) : ∀ x ∈ pairsL (runsS s) (runsN s), okP x := by
  intro x hx
  obtain ⟨i, hi', rfl⟩ := List.mem_map.1 hx
  exact (rn_set s).ok i (List.mem_range.1 hi')
set_option maxRecDepth 100000 in
theorem pairs_len (r : List Int) (n : Nat) : (pairsL r n).length = n := by simp [pairsL]
set_option maxRecDepth 100000 in
theorem pairs_get {r r' : List Int} {n : Nat} (h : pairsL r n = pairsL r' n) {i : Nat} (hi' : i < n) : lo r i = lo r' i ∧ hi r i = hi r' i := by
  have := congrArg (fun l => l[i]?) h
  simp only [pairsL, List.getElem?_map, List.getElem?_range hi', Option.map_some, Option.some.injEq, Prod.mk.injEq] at this
  exact this
set_option maxRecDepth 100000 in
/-- Sets with the same runs are the same. -/
theorem eqS_runs {s s' : Nat → Int} (hs : Wf s) (hs' : Wf s') (h : pairsL (runsS s) (runsN s) = pairsL (runsS s') (runsN s')) : eqS s s' = true := by
  have hn : runsN s = runsN s' := by have := congrArg List.length h; rwa [pairs_len, pairs_len] at this
  rw [← hn] at h
  refine ext_eqS hs hs' fun b h0 h1 => ?_
  have e1 := (rn_set s).has b h0 h1
  have e2 := (rn_set s').has b h0 h1
  change (hasI s b = true ↔ ∃ i, i < runsN s ∧ lo (runsS s) i ≤ b ∧ b ≤ hi (runsS s) i) at e1
  change (hasI s' b = true ↔ ∃ i, i < runsN s' ∧ lo (runsS s') i ≤ b ∧ b ≤ hi (runsS s') i) at e2
  have : hasI s b = true ↔ hasI s' b = true := by
    rw [e1, e2, ← hn]
    constructor
    · rintro ⟨i, hi', p, q⟩; obtain ⟨g1, g2⟩ := pairs_get h hi'; exact ⟨i, hi', by rw [← g1]; exact p, by rw [← g2]; exact q⟩
    · rintro ⟨i, hi', p, q⟩; obtain ⟨g1, g2⟩ := pairs_get h hi'; exact ⟨i, hi', by rw [g1]; exact p, by rw [g2]; exact q⟩
  cases p : hasI s b <;> cases q : hasI s' b <;> simp_all
set_option maxRecDepth 100000 in
theorem one_ok {s : Nat → Int} (h : oneB s = true) : runsN s = 1 ∧ lo (runsS s) 0 = hi (runsS s) 0 ∧ 0 ≤ lo (runsS s) 0 ∧ lo (runsS s) 0 < 256 := by
  simp only [oneB, Bool.and_eq_true, decide_eq_true_eq] at h
  have := (rn_set s).ok 0 (by change 0 < runsN s; omega)
  change 0 ≤ lo (runsS s) 0 ∧ lo (runsS s) 0 ≤ hi (runsS s) 0 ∧ hi (runsS s) 0 < (256 : Nat) at this
  exact ⟨h.1, h.2, by omega, by omega⟩
set_option maxRecDepth 100000 in
/-- How a set's text begins. -/
theorem setT_head (s : Nat → Int) : ∃ c m, setT s = c :: m ∧ c ≠ 40 ∧ c ≠ 41 ∧ c ≠ 123 ∧ c ≠ 124 := by
  unfold setT
  by_cases h : oneB s = true
  · obtain ⟨_, _, h3, h4⟩ := one_ok h
    obtain ⟨c, m, hc, g1, g2, _, _, _, g3, g4⟩ := byteT_head ⟨h3, h4⟩
    rw [if_pos h]
    exact ⟨c, m, hc, g1, g2, g3, g4⟩
  · rw [if_neg h]
    exact ⟨91, _, rfl, by decide, by decide, by decide, by decide⟩
set_option maxRecDepth 100000 in
theorem setT_inj {s s' : Nat → Int} (hs : Wf s) (hs' : Wf s') {r r' : List UInt8} (h : setT s ++ r = setT s' ++ r') : eqS s s' = true ∧ r = r' := by
  unfold setT at h
  by_cases p : oneB s = true
  · obtain ⟨p1, p2, p3, p4⟩ := one_ok p
    by_cases q : oneB s' = true
    · obtain ⟨q1, q2, q3, q4⟩ := one_ok q
      rw [if_pos p, if_pos q] at h
      obtain ⟨e, h⟩ := byteT_inj ⟨p3, p4⟩ ⟨q3, q4⟩ h
      refine ⟨eqS_runs hs hs' ?_, h⟩
      rw [p1, q1]
      simp [pairsL, List.range_succ, e, ← p2, ← q2]
    · rw [if_pos p, if_neg q] at h
      obtain ⟨c, m, hc, _, _, _, h91, _⟩ := byteT_head ⟨p3, p4⟩
      rw [hc] at h
      simp only [List.cons_append, List.nil_append, List.cons.injEq] at h
      exact absurd h.1 h91
  · by_cases q : oneB s' = true
    · obtain ⟨q1, q2, q3, q4⟩ := one_ok q
      rw [if_neg p, if_pos q] at h
      obtain ⟨c, m, hc, _, _, _, h91, _⟩ := byteT_head ⟨q3, q4⟩
      rw [hc] at h
      simp only [List.cons_append, List.nil_append, List.cons.injEq] at h
      exact absurd h.1.symm h91
    · rw [if_neg p, if_neg q, cls_pairs, cls_pairs] at h
      simp only [List.cons_append, List.nil_append, List.cons.injEq, true_and, List.append_assoc] at h
      obtain ⟨e, h⟩ := cls_inj (pairs_ok s) (pairs_ok s') h
      exact ⟨eqS_runs hs hs' e, h⟩
/-- Numbers up to 20 are told apart by their digits, where something other follows. -/
def isDig (c : UInt8) : Bool := decide (48 ≤ c) && decide (c ≤ 57)
set_option maxRecDepth 100000 in
theorem take_digs {i : Nat} (hi' : i ≤ 20) {c : UInt8} (hc : isDig c = false) (r : List UInt8) : (digs i ++ c :: r).takeWhile isDig = digs i := by
  have : ∀ m : Fin 21, (digs m.val).all isDig = true := by decide +kernel
  have h := this ⟨i, by omega⟩
  rw [List.takeWhile_append_of_pos (fun a ha => List.all_eq_true.1 h a ha), List.takeWhile_cons_of_neg (by simp [hc]), List.append_nil]
set_option maxRecDepth 100000 in
theorem digs_inj {i j : Nat} (hi' : i ≤ 20) (hj : j ≤ 20) {c d : UInt8} (hc : isDig c = false) (hd : isDig d = false) {r r' : List UInt8} (h : digs i ++ c :: r = digs j ++ d :: r') : i = j ∧ c = d ∧ r = r' := by
  have h1 := take_digs hi' hc r
  rw [h, take_digs hj hd r'] at h1
  have : ∀ a b : Fin 21, digs a.val = digs b.val → a = b := by decide +kernel
  have e := this ⟨i, by omega⟩ ⟨j, by omega⟩ h1.symm
  obtain rfl : i = j := by simpa using e
  have := List.append_cancel_left h
  simpa using this
set_option maxRecDepth 100000 in
theorem digs_head {i : Nat} (hi' : i ≤ 20) : ∃ c m, digs i = c :: m ∧ isDig c = true := by
  have : ∀ m : Fin 21, ((digs m.val).head?.map isDig) = some true := by decide +kernel
  have h := this ⟨i, by omega⟩
  cases hd : digs i with
  | nil => rw [show digs (⟨i, by omega⟩ : Fin 21).val = digs i from rfl, hd] at h; simp at h
  | cons c m => rw [show digs (⟨i, by omega⟩ : Fin 21).val = digs i from rfl, hd] at h; exact ⟨c, m, rfl, by simpa using h⟩
def okC (lo hi : Int) : Prop := 0 ≤ lo ∧ lo ≤ 20 ∧ (hi = -1 ∨ (0 ≤ hi ∧ hi ≤ 20))
set_option maxRecDepth 100000 in
theorem countsT_inj {lo hi lo' hi' : Int} (h1 : okC lo hi) (h2 : okC lo' hi') {r r' : List UInt8} (h : countsT lo hi ++ r = countsT lo' hi' ++ r') : lo = lo' ∧ hi = hi' ∧ r = r' := by
  unfold okC at h1 h2
  unfold countsT at h
  simp only [List.cons_append, List.nil_append, List.cons.injEq, true_and, List.append_assoc] at h
  obtain ⟨e1, _, h⟩ := digs_inj (by omega) (by omega) (by decide) (by decide) h
  by_cases p : hi = -1
  · by_cases q : hi' = -1
    · rw [if_pos p, if_pos q] at h
      simp only [List.nil_append, List.cons.injEq, true_and] at h
      exact ⟨by omega, by omega, h⟩
    · rw [if_pos p, if_neg q] at h
      obtain ⟨c, m, hc, hd⟩ := digs_head (i := hi'.toNat) (by omega)
      rw [hc] at h
      simp only [List.cons_append, List.nil_append, List.cons.injEq] at h
      rw [← h.1] at hd
      exact absurd hd (by decide)
  · by_cases q : hi' = -1
    · rw [if_neg p, if_pos q] at h
      obtain ⟨c, m, hc, hd⟩ := digs_head (i := hi.toNat) (by omega)
      rw [hc] at h
      simp only [List.cons_append, List.nil_append, List.cons.injEq] at h
      rw [h.1] at hd
      exact absurd hd (by decide)
    · rw [if_neg p, if_neg q] at h
      obtain ⟨e2, _, h⟩ := digs_inj (by omega) (by omega) (by decide) (by decide) h
      exact ⟨by omega, by omega, h⟩
end Go.Proofs.YtnfchlkdppblfaaDoor
