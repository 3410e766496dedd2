/- The places of a pattern, as plain mathematics: places beside one another, behind one another, repeated; what a pattern's are; how a builder that keeps all of them comes to them. -/
import Derived.Test.YtbahadgcmaabcaaY
import Derived.Test.YtbahadgcmaabcaaZ
namespace Go.Proofs.Ytbahadgcmaabcaa
open Go.RowKit
/-- Places: how many, their sets, which are first, which last, what follows, and whether the empty text is matched. -/
structure Pl where
  n : Nat
  set : Nat → Nat → Int
  fi : Nat → Bool
  la : Nat → Bool
  fo : Nat → Nat → Bool
  nu : Bool
/-- Nothing is said of what is no place. -/
structure Pl.Ok (P : Pl) : Prop where
  set : ∀ i, P.n ≤ i → P.set i = z0
  fi : ∀ i, P.n ≤ i → P.fi i = false
  la : ∀ i, P.n ≤ i → P.la i = false
  fo : ∀ i j, P.n ≤ i ∨ P.n ≤ j → P.fo i j = false
theorem Pl.ext' {P Q : Pl} (h1 : P.n = Q.n) (h2 : ∀ i, P.set i = Q.set i) (h3 : ∀ i, P.fi i = Q.fi i) (h4 : ∀ i, P.la i = Q.la i) (h5 : ∀ i j, P.fo i j = Q.fo i j) (h6 : P.nu = Q.nu) : P = Q := by
  cases P; cases Q
  simp only [Pl.mk.injEq]
  exact ⟨h1, funext h2, funext h3, funext h4, funext fun i => funext (h5 i), h6⟩
def Pl.nil (b : Bool) : Pl := ⟨0, fun _ => z0, fun _ => false, fun _ => false, fun _ _ => false, b⟩
def Pl.one (s : Nat → Int) : Pl := ⟨1, fun i => if i = 0 then s else z0, fun i => decide (i = 0), fun i => decide (i = 0), fun _ _ => false, false⟩
def Pl.cat (a b : Pl) : Pl where
  n := a.n + b.n
  set i := if i < a.n then a.set i else b.set (i - a.n)
  fi i := if i < a.n then a.fi i else a.nu && b.fi (i - a.n)
  la i := if i < a.n then b.nu && a.la i else b.la (i - a.n)
  fo i j := if i < a.n then (if j < a.n then a.fo i j else a.la i && b.fi (j - a.n)) else (decide (a.n ≤ j) && b.fo (i - a.n) (j - a.n))
  nu := a.nu && b.nu
def Pl.alt (a b : Pl) : Pl where
  n := a.n + b.n
  set i := if i < a.n then a.set i else b.set (i - a.n)
  fi i := if i < a.n then a.fi i else b.fi (i - a.n)
  la i := if i < a.n then a.la i else b.la (i - a.n)
  fo i j := if i < a.n then (decide (j < a.n) && a.fo i j) else (decide (a.n ≤ j) && b.fo (i - a.n) (j - a.n))
  nu := a.nu || b.nu
def Pl.loop (a : Pl) : Pl := ⟨a.n, a.set, a.fi, a.la, fun i j => a.fo i j || (a.la i && a.fi j), a.nu⟩
def Pl.orN (a : Pl) (b : Bool) : Pl := ⟨a.n, a.set, a.fi, a.la, a.fo, a.nu || b⟩
abbrev Pl.may (a : Pl) : Pl := a.orN true
theorem Pl.ok_nil (b : Bool) : (Pl.nil b).Ok := ⟨fun _ _ => rfl, fun _ _ => rfl, fun _ _ => rfl, fun _ _ _ => rfl⟩
theorem Pl.ok_one (s : Nat → Int) : (Pl.one s).Ok :=
  ⟨fun i h => if_neg (by simp only [Pl.one] at h; omega), fun i h => decide_eq_false (by simp only [Pl.one] at h; omega), fun i h => decide_eq_false (by simp only [Pl.one] at h; omega), fun _ _ _ => rfl⟩
theorem Pl.Ok.cat {a b : Pl} (_ha : a.Ok) (hb : b.Ok) : (a.cat b).Ok := by
  refine ⟨fun i h => ?_, fun i h => ?_, fun i h => ?_, fun i j h => ?_⟩
  · simp only [Pl.cat] at h ⊢; rw [if_neg (by omega)]; exact hb.set _ (by omega)
  · simp only [Pl.cat] at h ⊢; rw [if_neg (by omega), hb.fi _ (by omega), Bool.and_false]
  · simp only [Pl.cat] at h ⊢; rw [if_neg (by omega)]; exact hb.la _ (by omega)
  · simp only [Pl.cat] at h ⊢
    by_cases h1 : i < a.n
    · rw [if_pos h1, if_neg (by omega), hb.fi _ (by omega), Bool.and_false]
    · rw [if_neg h1]
      by_cases h2 : a.n ≤ j
      · rw [hb.fo _ _ (by omega), Bool.and_false]
      · rw [decide_eq_false h2, Bool.false_and]
theorem Pl.Ok.alt {a b : Pl} (_ha : a.Ok) (hb : b.Ok) : (a.alt b).Ok := by
  refine ⟨fun i h => ?_, fun i h => ?_, fun i h => ?_, fun i j h => ?_⟩
  · simp only [Pl.alt] at h ⊢; rw [if_neg (by omega)]; exact hb.set _ (by omega)
  · simp only [Pl.alt] at h ⊢; rw [if_neg (by omega)]; exact hb.fi _ (by omega)
  · simp only [Pl.alt] at h ⊢; rw [if_neg (by omega)]; exact hb.la _ (by omega)
  · simp only [Pl.alt] at h ⊢
    by_cases h1 : i < a.n
    · rw [if_pos h1, decide_eq_false (by omega), Bool.false_and]
    · rw [if_neg h1]
      by_cases h2 : a.n ≤ j
      · rw [hb.fo _ _ (by omega), Bool.and_false]
      · rw [decide_eq_false h2, Bool.false_and]
theorem Pl.Ok.loop {a : Pl} (ha : a.Ok) : a.loop.Ok :=
  ⟨ha.set, ha.fi, ha.la, fun i j h => by
    show (a.fo i j || (a.la i && a.fi j)) = false
    rw [ha.fo i j h]
    rcases h with h | h
    · rw [ha.la i h]; rfl
    · rw [ha.fi j h, Bool.and_false]; rfl⟩
theorem Pl.Ok.orN {a : Pl} (ha : a.Ok) (b : Bool) : (a.orN b).Ok := ⟨ha.set, ha.fi, ha.la, ha.fo⟩
theorem Pl.nil_cat (b : Pl) : (Pl.nil true).cat b = b :=
  Pl.ext' (Nat.zero_add _) (fun _ => rfl) (fun _ => Bool.true_and _) (fun _ => rfl) (fun i j => by simp [Pl.cat, Pl.nil]) (Bool.true_and _)
theorem Pl.nil_alt (b : Pl) : (Pl.nil false).alt b = b :=
  Pl.ext' (Nat.zero_add _) (fun _ => rfl) (fun _ => rfl) (fun _ => rfl) (fun i j => by simp [Pl.alt, Pl.nil]) (Bool.false_or _)
theorem Pl.cat_assoc (a b c : Pl) : (a.cat b).cat c = a.cat (b.cat c) := by
  refine Pl.ext' (Nat.add_assoc _ _ _) (fun i => ?_) (fun i => ?_) (fun i => ?_) (fun i j => ?_) (Bool.and_assoc _ _ _)
  · have h1 : i < a.n ∨ (¬ i < a.n ∧ i < a.n + b.n) ∨ (¬ i < a.n + b.n) := by omega
    rcases h1 with h | ⟨h, h'⟩ | h
    · simp [Pl.cat, h, show i < a.n + b.n by omega]
    · simp [Pl.cat, h, h', show i - a.n < b.n by omega]
    · simp [Pl.cat, h, show ¬ i < a.n by omega, show ¬ i - a.n < b.n by omega, Nat.sub_sub]
  · have h1 : i < a.n ∨ (¬ i < a.n ∧ i < a.n + b.n) ∨ (¬ i < a.n + b.n) := by omega
    rcases h1 with h | ⟨h, h'⟩ | h
    · simp [Pl.cat, h, show i < a.n + b.n by omega]
    · simp [Pl.cat, h, h', show i - a.n < b.n by omega]
    · simp [Pl.cat, h, show ¬ i < a.n by omega, show ¬ i - a.n < b.n by omega, Nat.sub_sub, Bool.and_assoc]
  · have h1 : i < a.n ∨ (¬ i < a.n ∧ i < a.n + b.n) ∨ (¬ i < a.n + b.n) := by omega
    rcases h1 with h | ⟨h, h'⟩ | h
    · simp only [Pl.cat, if_pos h, if_pos (show i < a.n + b.n by omega)]; cases c.nu <;> cases b.nu <;> simp
    · simp [Pl.cat, h, h', show i - a.n < b.n by omega]
    · simp [Pl.cat, h, show ¬ i < a.n by omega, show ¬ i - a.n < b.n by omega, Nat.sub_sub]
  · have h1 : i < a.n ∨ (¬ i < a.n ∧ i < a.n + b.n) ∨ (¬ i < a.n + b.n) := by omega
    have h2 : j < a.n ∨ (¬ j < a.n ∧ j < a.n + b.n) ∨ (¬ j < a.n + b.n) := by omega
    rcases h1 with h | ⟨h, h'⟩ | h <;> rcases h2 with k | ⟨k, k'⟩ | k
    · simp [Pl.cat, h, k, show i < a.n + b.n by omega, show j < a.n + b.n by omega]
    · simp [Pl.cat, h, k, k', show i < a.n + b.n by omega, show j - a.n < b.n by omega]
    · simp only [Pl.cat, if_pos h, if_pos (show i < a.n + b.n by omega), if_neg k, if_neg (show ¬ j < a.n by omega), if_neg (show ¬ j - a.n < b.n by omega), Nat.sub_sub]
      cases b.nu <;> cases a.la i <;> simp
    · simp [Pl.cat, h, h', show j < a.n + b.n by omega, show ¬ a.n ≤ j by omega]
    · simp [Pl.cat, h, h', k', show i - a.n < b.n by omega, show j - a.n < b.n by omega, show a.n ≤ j by omega]
    · simp [Pl.cat, h, h', k, show i - a.n < b.n by omega, show ¬ j - a.n < b.n by omega, show a.n ≤ j by omega, Nat.sub_sub]
    · simp [Pl.cat, h, show ¬ i < a.n by omega, show ¬ a.n ≤ j by omega, show ¬ a.n + b.n ≤ j by omega]
    · simp [Pl.cat, h, show ¬ i < a.n by omega, show ¬ i - a.n < b.n by omega, show ¬ a.n + b.n ≤ j by omega, show ¬ b.n ≤ j - a.n by omega]
    · simp [Pl.cat, h, show ¬ i < a.n by omega, show ¬ i - a.n < b.n by omega, show a.n + b.n ≤ j by omega, show a.n ≤ j by omega, show b.n ≤ j - a.n by omega, Nat.sub_sub]
def Pl.catTo (f : Nat → Pl) : Nat → Pl
  | 0 => Pl.nil true
  | n + 1 => (Pl.catTo f n).cat (f n)
def Pl.altTo (f : Nat → Pl) : Nat → Pl
  | 0 => Pl.nil false
  | n + 1 => (Pl.altTo f n).alt (f n)
/-- So many of them, one behind the other. -/
def Pl.pows (x : Pl) (n : Nat) : Pl := Pl.catTo (fun _ => x) n
/-- So many of them, each with all that are behind it, or not. -/
def Pl.opts (x : Pl) : Nat → Pl
  | 0 => Pl.nil true
  | n + 1 => (x.cat (x.opts n)).may
/-- So many of them ahead. -/
def Pl.pre (x : Pl) (y : Pl) : Nat → Pl
  | 0 => y
  | n + 1 => x.cat (x.pre y n)
theorem Pl.pre_pows (x : Pl) : ∀ (n : Nat) (y : Pl), x.pre y n = (x.pows n).cat y
  | 0, y => (Pl.nil_cat y).symm
  | n + 1, y => by
    have key : ∀ (n : Nat) (y : Pl), x.pre (x.cat y) n = x.cat (x.pre y n) := by
      intro n
      induction n with
      | zero => intro y; rfl
      | succ n ih => intro y; show x.cat (x.pre (x.cat y) n) = _; rw [ih]; rfl
    show x.cat (x.pre y n) = _
    rw [← key, Pl.pre_pows x n, ← Pl.cat_assoc]
    rfl
def Pl.rep (x : Pl) (lo hi : Int) : Pl := if hi < 0 then (x.pows (lo - 1).toNat).cat (x.loop.orN (decide (lo = 0))) else (x.pows lo.toNat).cat (x.opts (hi - lo).toNat)
theorem Pl.ok_catTo {f : Nat → Pl} : ∀ {n : Nat}, (∀ i, i < n → (f i).Ok) → (Pl.catTo f n).Ok
  | 0, _ => Pl.ok_nil _
  | n + 1, h => (Pl.ok_catTo (n := n) fun i hi => h i (by omega)).cat (h n (by omega))
theorem Pl.ok_altTo {f : Nat → Pl} : ∀ {n : Nat}, (∀ i, i < n → (f i).Ok) → (Pl.altTo f n).Ok
  | 0, _ => Pl.ok_nil _
  | n + 1, h => (Pl.ok_altTo (n := n) fun i hi => h i (by omega)).alt (h n (by omega))
theorem Pl.Ok.pows {x : Pl} (h : x.Ok) (n : Nat) : (x.pows n).Ok := Pl.ok_catTo fun _ _ => h
theorem Pl.Ok.opts {x : Pl} (h : x.Ok) : ∀ n : Nat, (x.opts n).Ok
  | 0 => Pl.ok_nil _
  | n + 1 => (h.cat (Pl.Ok.opts h n)).orN _
theorem Pl.Ok.rep {x : Pl} (h : x.Ok) (lo hi : Int) : (x.rep lo hi).Ok := by
  unfold Pl.rep
  split
  · exact (h.pows _).cat (h.loop.orN _)
  · exact (h.pows _).cat (h.opts _)
/-- The places of a pattern. -/
def plT : Tr → Pl
  | .node k s lo hi _ n _ kid => if k = 2 then Pl.one s else if k = 3 then Pl.catTo (fun i => plT (kid i)) n else if k = 4 then Pl.altTo (fun i => plT (kid i)) n else if k = 5 then (plT (kid 0)).rep lo hi else Pl.nil true
  | .nul => Pl.nil true
theorem plT_eq (t : Tr) : plT t = if t.k = 2 then Pl.one t.s else if t.k = 3 then Pl.catTo (fun i => plT (t.kid i)) t.n else if t.k = 4 then Pl.altTo (fun i => plT (t.kid i)) t.n else if t.k = 5 then (plT (t.kid 0)).rep t.lo t.hi else Pl.nil true := by
  cases t with
  | node => rfl
  | nul => rfl
theorem plT_ok : ∀ t : Tr, (plT t).Ok
  | .node k s lo hi a n cap kid => by
    have h3 := fun i => plT_ok (kid i)
    unfold plT
    by_cases e2 : k = 2
    · rw [if_pos e2]; exact Pl.ok_one _
    · rw [if_neg e2]
      by_cases e3 : k = 3
      · rw [if_pos e3]; exact Pl.ok_catTo fun i _ => h3 i
      · rw [if_neg e3]
        by_cases e4 : k = 4
        · rw [if_pos e4]; exact Pl.ok_altTo fun i _ => h3 i
        · rw [if_neg e4]
          by_cases e5 : k = 5
          · rw [if_pos e5]; exact (h3 0).rep _ _
          · rw [if_neg e5]; exact Pl.ok_nil _
  | .nul => Pl.ok_nil _
theorem plT_2 {t : Tr} (h : t.k = 2) : plT t = Pl.one t.s := by rw [plT_eq, if_pos h]
theorem plT_3 {t : Tr} (h : t.k = 3) : plT t = Pl.catTo (fun i => plT (t.kid i)) t.n := by rw [plT_eq, if_neg (by omega), if_pos h]
theorem plT_4 {t : Tr} (h : t.k = 4) : plT t = Pl.altTo (fun i => plT (t.kid i)) t.n := by rw [plT_eq, if_neg (by omega), if_neg (by omega), if_pos h]
theorem plT_5 {t : Tr} (h : t.k = 5) : plT t = (plT (t.kid 0)).rep t.lo t.hi := by rw [plT_eq, if_neg (by omega), if_neg (by omega), if_neg (by omega), if_pos h]
theorem plT_1 {t : Tr} (h : t.k = 1) : plT t = Pl.nil true := by rw [plT_eq, if_neg (by omega), if_neg (by omega), if_neg (by omega), if_neg (by omega)]
theorem catTo_n (f : Nat → Pl) : ∀ n, (Pl.catTo f n).n = sumTo (fun i => (f i).n) n
  | 0 => rfl
  | n + 1 => by show (Pl.catTo f n).n + (f n).n = _; rw [catTo_n f n]; rfl
theorem altTo_n (f : Nat → Pl) : ∀ n, (Pl.altTo f n).n = sumTo (fun i => (f i).n) n
  | 0 => rfl
  | n + 1 => by show (Pl.altTo f n).n + (f n).n = _; rw [altTo_n f n]; rfl
theorem pows_n (x : Pl) (n : Nat) : (x.pows n).n = n * x.n := by
  unfold Pl.pows
  rw [catTo_n]
  induction n with
  | zero => simp [sumTo]
  | succ n ih => rw [sumTo, ih, Nat.succ_mul]
theorem opts_n (x : Pl) : ∀ n, (x.opts n).n = n * x.n
  | 0 => by simp [Pl.opts, Pl.nil]
  | n + 1 => by show x.n + (x.opts n).n = _; rw [opts_n x n, Nat.succ_mul, Nat.add_comm]
theorem sumTo_congr {f g : Nat → Nat} : ∀ {n : Nat}, (∀ i, i < n → f i = g i) → sumTo f n = sumTo g n
  | 0, _ => rfl
  | n + 1, h => by rw [sumTo, sumTo, sumTo_congr (n := n) fun i hi => h i (by omega), h n (by omega)]
theorem rep_n {x : Pl} {lo hi : Int} (h : countsB lo hi = true) : (x.rep lo hi).n = repM lo hi * x.n := by
  simp only [countsB, Bool.and_eq_true, Bool.or_eq_true, decide_eq_true_eq] at h
  unfold Pl.rep
  split
  · show (x.pows _).n + x.n = _
    rw [pows_n, ← Nat.succ_mul]
    congr 1
    unfold repM
    omega
  · show (x.pows _).n + (x.opts _).n = _
    rw [pows_n, opts_n, ← Nat.add_mul]
    congr 1
    unfold repM
    omega
theorem fits_counts {t : Tr} (h : fitsB t = true) (hk : t.k = 5) : countsB t.lo t.hi = true ∧ t.n = 1 := by
  unfold fitsB at h
  rw [if_neg (by omega), if_neg (by omega), if_pos hk] at h
  simp only [Bool.and_eq_true, decide_eq_true_eq] at h
  exact ⟨h.1, h.2.2⟩
/-- There are as many places as Size tells. -/
theorem plT_n : ∀ t : Tr, fitT t = true → (plT t).n = sz t
  | .node k s lo hi a n cap kid, h => by
    have hf := fitT_fits h
    have hk := fun i hi => plT_n (kid i) (fitT_kid h (i := i) hi)
    rw [sz_eq]
    have hc := fits_cases hf
    have hct := fits_counts hf
    simp only [Tr.k, Tr.n, Tr.lo, Tr.hi] at hc hct
    rcases hc with ⟨h1, h2⟩ | ⟨h1, h2⟩ | ⟨h1 | h1, h2⟩ | ⟨h1, h2, _⟩
    · rw [plT_1 (t := .node k s lo hi a n cap kid) h1]; simp [Pl.nil, ownT, timT, Tr.k, h1]
    · rw [plT_2 (t := .node k s lo hi a n cap kid) h1]; simp [Pl.one, ownT, timT, Tr.k, h1]
    · rw [plT_3 (t := .node k s lo hi a n cap kid) h1, catTo_n]; simp [ownT, timT, Tr.k, h1, Tr.kid, Tr.n]; exact sumTo_congr hk
    · rw [plT_4 (t := .node k s lo hi a n cap kid) h1, altTo_n]; simp [ownT, timT, Tr.k, h1, Tr.kid, Tr.n]; exact sumTo_congr hk
    · rw [plT_5 (t := .node k s lo hi a n cap kid) h1]
      show ((plT (kid 0)).rep lo hi).n = _
      rw [rep_n (hct h1).1]
      subst h2
      have := hk 0 (show 0 < 1 by omega)
      simp [ownT, timT, Tr.k, h1, Tr.kid, Tr.n, Tr.lo, Tr.hi, sumTo, this]
  | .nul, h => by cases h
theorem rep_nil (lo hi : Int) : (Pl.nil true).rep lo hi = Pl.nil true := by
  have hc : ∀ n, (Pl.nil true).pows n = Pl.nil true := fun n => by
    induction n with
    | zero => rfl
    | succ n ih => show ((Pl.nil true).pows n).cat _ = _; rw [ih]; exact Pl.nil_cat _
  have ho : ∀ n, (Pl.nil true).opts n = Pl.nil true := fun n => by
    induction n with
    | zero => rfl
    | succ n ih => show ((Pl.nil true).cat ((Pl.nil true).opts n)).may = _; rw [ih]; rfl
  unfold Pl.rep
  rw [hc, hc, ho, Pl.nil_cat, Pl.nil_cat]
  split <;> rfl
theorem sumTo_zero {f : Nat → Nat} : ∀ {n : Nat}, sumTo f n = 0 → ∀ i, i < n → f i = 0
  | n + 1, h, i, hi => by
    rw [sumTo] at h
    by_cases e : i = n
    · subst e; omega
    · exact sumTo_zero (n := n) (by omega) i (by omega)
/-- A pattern without places matches the empty text alone. -/
theorem plT_none : ∀ t : Tr, fitT t = true → sz t = 0 → plT t = Pl.nil true
  | .node k s lo hi a n cap kid, h, hz => by
    have hf := fitT_fits h
    rw [sz_eq] at hz
    have hc := fits_cases hf
    have hct := fits_counts hf
    simp only [Tr.k, Tr.n, Tr.lo, Tr.hi] at hc hct
    have h0 : (k = 3 ∨ k = 4 ∨ k = 5) → ∀ i, i < n → plT (kid i) = Pl.nil true := fun hk i hj => by
      have h1 : timT (.node k s lo hi a n cap kid) ≠ 0 := by
        rcases hk with h | h | h
        · simp [timT, Tr.k, h]
        · simp [timT, Tr.k, h]
        · have := (hct h).1
          simp only [countsB, Bool.and_eq_true, Bool.or_eq_true, decide_eq_true_eq] at this
          simp only [timT, Tr.k, h, Tr.lo, Tr.hi]
          simp [repM]
          omega
      have h2 : sumTo (fun i => sz (kid i)) n = 0 := by
        have h3 : timT (.node k s lo hi a n cap kid) * sumTo (fun i => sz (kid i)) n = 0 := by
          have : timT (.node k s lo hi a n cap kid) * sumTo (fun i => sz ((Tr.node k s lo hi a n cap kid).kid i)) (Tr.node k s lo hi a n cap kid).n = 0 := by omega
          exact this
        rcases Nat.mul_eq_zero.1 h3 with e | e
        · exact absurd e h1
        · exact e
      exact plT_none (kid i) (fitT_kid h (i := i) hj) (sumTo_zero h2 i hj)
    rcases hc with ⟨h1, h2⟩ | ⟨h1, h2⟩ | ⟨h1 | h1, h2⟩ | ⟨h1, h2, _⟩
    · exact plT_1 (t := .node k s lo hi a n cap kid) h1
    · simp [ownT, Tr.k, h1] at hz
    · rw [plT_3 (t := .node k s lo hi a n cap kid) h1]
      have key : ∀ j, j ≤ n → Pl.catTo (fun i => plT (kid i)) j = Pl.nil true := fun j => by
        induction j with
        | zero => intro _; rfl
        | succ j ih => intro hj; rw [Pl.catTo, ih (by omega), h0 (Or.inl h1) j (by omega)]; exact Pl.nil_cat _
      exact key n (Nat.le_refl _)
    · rw [plT_4 (t := .node k s lo hi a n cap kid) h1]
      have key : ∀ j, j ≤ n → 0 < j → Pl.altTo (fun i => plT (kid i)) j = Pl.nil true := fun j => by
        induction j with
        | zero => intro _ h; omega
        | succ j ih =>
          intro hj _
          rw [Pl.altTo, h0 (Or.inr (Or.inl h1)) j (by omega)]
          by_cases e : j = 0
          · subst e; exact Pl.nil_alt _
          · rw [ih (by omega) (by omega)]; rfl
      exact key n (Nat.le_refl _) (by omega)
    · rw [plT_5 (t := .node k s lo hi a n cap kid) h1]
      show (plT (kid 0)).rep lo hi = _
      rw [h0 (Or.inr (Or.inr h1)) 0 (by omega)]
      exact rep_nil lo hi
  | .nul, h, _ => by cases h
/-- What a builder keeps: how many places, their sets, what follows. -/
structure Gs where
  n : Nat
  set : Nat → Nat → Int
  fo : Nat → Nat → Bool
structure Gs.Ok (G : Gs) : Prop where
  set : ∀ i, G.n ≤ i → G.set i = z0
  fo : ∀ i j, G.n ≤ i ∨ G.n ≤ j → G.fo i j = false
theorem Gs.ext' {G H : Gs} (h1 : G.n = H.n) (h2 : ∀ i, G.set i = H.set i) (h3 : ∀ i j, G.fo i j = H.fo i j) : G = H := by
  cases G; cases H
  simp only [Gs.mk.injEq]
  exact ⟨h1, funext h2, funext fun i => funext (h3 i)⟩
def Gs.none : Gs := ⟨0, fun _ => z0, fun _ _ => false⟩
theorem Gs.ok_none : Gs.none.Ok := ⟨fun _ _ => rfl, fun _ _ _ => rfl⟩
def Gs.add (G : Gs) (P : Pl) : Gs := ⟨G.n + P.n, fun i => if i < G.n then G.set i else P.set (i - G.n), fun i j => if i < G.n then G.fo i j else decide (G.n ≤ j) && P.fo (i - G.n) (j - G.n)⟩
def Gs.link (G : Gs) (l f : Nat → Bool) : Gs := ⟨G.n, G.set, fun i j => G.fo i j || (l i && f j)⟩
/-- So much further on. -/
def sh (p : Nat → Bool) (n : Nat) : Nat → Bool := fun i => decide (n ≤ i) && p (i - n)
theorem Gs.Ok.add {G : Gs} (hG : G.Ok) {P : Pl} (hP : P.Ok) : (G.add P).Ok := by
  refine ⟨fun i h => ?_, fun i j h => ?_⟩
  · simp only [Gs.add] at h ⊢; rw [if_neg (by omega)]; exact hP.set _ (by omega)
  · simp only [Gs.add] at h ⊢
    by_cases h1 : i < G.n
    · rw [if_pos h1]; exact hG.fo _ _ (by omega)
    · rw [if_neg h1]
      by_cases h2 : G.n ≤ j
      · rw [hP.fo _ _ (by omega), Bool.and_false]
      · rw [decide_eq_false h2, Bool.false_and]
theorem Gs.none_add (P : Pl) : Gs.none.add P = ⟨P.n, P.set, P.fo⟩ :=
  Gs.ext' (Nat.zero_add _) (fun _ => rfl) (fun i j => by simp [Gs.add, Gs.none])
theorem Gs.add_nil {G : Gs} (hG : G.Ok) (b : Bool) : G.add (Pl.nil b) = G := by
  refine Gs.ext' (Nat.add_zero _) (fun i => ?_) (fun i j => ?_)
  · simp only [Gs.add, Pl.nil]
    by_cases h : i < G.n
    · rw [if_pos h]
    · rw [if_neg h, hG.set i (by omega)]
  · simp only [Gs.add, Pl.nil, Bool.and_false]
    by_cases h : i < G.n
    · rw [if_pos h]
    · rw [if_neg h, hG.fo i j (by omega)]
theorem Gs.add_orN (G : Gs) (P : Pl) (b : Bool) : G.add (P.orN b) = G.add P := rfl
theorem Gs.cat_link (G : Gs) {C K : Pl} (hC : C.Ok) : ((G.add C).add K).link (sh C.la G.n) (sh K.fi (G.n + C.n)) = G.add (C.cat K) := by
  refine Gs.ext' (Nat.add_assoc _ _ _) (fun i => ?_) (fun i j => ?_)
  · have h1 : i < G.n ∨ (¬ i < G.n ∧ i < G.n + C.n) ∨ (¬ i < G.n + C.n) := by omega
    rcases h1 with h | ⟨h, h'⟩ | h
    · simp [Gs.add, Gs.link, h, show i < G.n + C.n by omega]
    · simp [Gs.add, Gs.link, Pl.cat, h, h', show i - G.n < C.n by omega]
    · simp [Gs.add, Gs.link, Pl.cat, h, show ¬ i < G.n by omega, show ¬ i - G.n < C.n by omega, Nat.sub_sub]
  · have h1 : i < G.n ∨ (¬ i < G.n ∧ i < G.n + C.n) ∨ (¬ i < G.n + C.n) := by omega
    rcases h1 with h | ⟨h, h'⟩ | h
    · simp [Gs.add, Gs.link, sh, h, show i < G.n + C.n by omega, show ¬ G.n ≤ i by omega]
    · have h2 : j < G.n ∨ (¬ j < G.n ∧ j < G.n + C.n) ∨ (¬ j < G.n + C.n) := by omega
      rcases h2 with k | ⟨k, k'⟩ | k
      · simp [Gs.add, Gs.link, sh, Pl.cat, h, h', show i - G.n < C.n by omega, show ¬ G.n ≤ j by omega, show ¬ G.n + C.n ≤ j by omega]
      · simp [Gs.add, Gs.link, sh, Pl.cat, h, h', show i - G.n < C.n by omega, show G.n ≤ j by omega, show ¬ G.n + C.n ≤ j by omega, show j - G.n < C.n by omega]
      · have h3 := hC.fo (i - G.n) (j - G.n) (by omega)
        simp [Gs.add, Gs.link, sh, Pl.cat, h, h', h3, show i - G.n < C.n by omega, show G.n ≤ i by omega, show G.n ≤ j by omega, show G.n + C.n ≤ j by omega, show ¬ j - G.n < C.n by omega, Nat.sub_sub]
    · have h3 := hC.la (i - G.n) (by omega)
      by_cases q : G.n + C.n ≤ j
      · simp [Gs.add, Gs.link, sh, Pl.cat, h, h3, q, show G.n ≤ j by omega, show C.n ≤ j - G.n by omega, show ¬ i < G.n by omega, show ¬ i - G.n < C.n by omega, Nat.sub_sub]
      · by_cases q2 : G.n ≤ j
        · simp [Gs.add, Gs.link, sh, Pl.cat, h, h3, q, q2, show ¬ C.n ≤ j - G.n by omega, show ¬ i < G.n by omega, show ¬ i - G.n < C.n by omega, Nat.sub_sub]
        · simp [Gs.add, Gs.link, sh, Pl.cat, h, h3, q, q2, show ¬ i < G.n by omega, show ¬ i - G.n < C.n by omega, Nat.sub_sub]
theorem Gs.alt_add (G : Gs) {C K : Pl} (hC : C.Ok) : (G.add C).add K = G.add (C.alt K) := by
  refine Gs.ext' (Nat.add_assoc _ _ _) (fun i => ?_) (fun i j => ?_)
  · have h1 : i < G.n ∨ (¬ i < G.n ∧ i < G.n + C.n) ∨ (¬ i < G.n + C.n) := by omega
    rcases h1 with h | ⟨h, h'⟩ | h
    · simp [Gs.add, h, show i < G.n + C.n by omega]
    · simp [Gs.add, Pl.alt, h, h', show i - G.n < C.n by omega]
    · simp [Gs.add, Pl.alt, h, show ¬ i < G.n by omega, show ¬ i - G.n < C.n by omega, Nat.sub_sub]
  · have h1 : i < G.n ∨ (¬ i < G.n ∧ i < G.n + C.n) ∨ (¬ i < G.n + C.n) := by omega
    rcases h1 with h | ⟨h, h'⟩ | h
    · simp [Gs.add, h, show i < G.n + C.n by omega]
    · by_cases k : j - G.n < C.n
      · simp [Gs.add, Pl.alt, h, h', k, show i - G.n < C.n by omega]
      · have h3 := hC.fo (i - G.n) (j - G.n) (by omega)
        simp [Gs.add, Pl.alt, h, h', h3, show i - G.n < C.n by omega]
    · by_cases q : G.n + C.n ≤ j
      · simp [Gs.add, Pl.alt, h, q, show G.n ≤ j by omega, show C.n ≤ j - G.n by omega, show ¬ i < G.n by omega, show ¬ i - G.n < C.n by omega, Nat.sub_sub]
      · by_cases q2 : G.n ≤ j
        · simp [Gs.add, Pl.alt, h, q, q2, show ¬ C.n ≤ j - G.n by omega, show ¬ i < G.n by omega, show ¬ i - G.n < C.n by omega, Nat.sub_sub]
        · simp [Gs.add, Pl.alt, h, q, q2, show ¬ i < G.n by omega, show ¬ i - G.n < C.n by omega, Nat.sub_sub]
theorem Gs.loop_link (G : Gs) (C : Pl) : (G.add C).link (sh C.la G.n) (sh C.fi G.n) = G.add C.loop := by
  refine Gs.ext' rfl (fun i => rfl) (fun i j => ?_)
  by_cases h : i < G.n
  · simp [Gs.add, Gs.link, sh, h, show ¬ G.n ≤ i by omega]
  · simp only [Gs.add, Gs.link, sh, Pl.loop, if_neg h, decide_eq_true (show G.n ≤ i by omega), Bool.true_and]
    cases decide (G.n ≤ j) <;> simp
theorem sh_cat_fi (C K : Pl) (hC : C.Ok) (n : Nat) (i : Nat) : (sh C.fi n i || (C.nu && sh K.fi (n + C.n) i)) = sh (C.cat K).fi n i := by
  by_cases h : i - n < C.n
  · by_cases k : n ≤ i
    · simp [sh, Pl.cat, h, k, show ¬ n + C.n ≤ i by omega]
    · simp [sh, k, show ¬ n + C.n ≤ i by omega]
  · have h3 := hC.fi (i - n) (by omega)
    by_cases k : n ≤ i
    · simp [sh, Pl.cat, h, h3, k, show n + C.n ≤ i by omega, Nat.sub_sub]
    · simp [sh, k, show ¬ n + C.n ≤ i by omega]
theorem sh_cat_la (C K : Pl) (hC : C.Ok) (n : Nat) (i : Nat) : ((K.nu && sh C.la n i) || sh K.la (n + C.n) i) = sh (C.cat K).la n i := by
  by_cases h : i - n < C.n
  · by_cases k : n ≤ i
    · simp [sh, Pl.cat, h, k, show ¬ n + C.n ≤ i by omega]
    · simp [sh, k, show ¬ n + C.n ≤ i by omega]
  · have h3 := hC.la (i - n) (by omega)
    by_cases k : n ≤ i
    · simp [sh, Pl.cat, h, h3, k, show n + C.n ≤ i by omega, Nat.sub_sub]
    · simp [sh, k, show ¬ n + C.n ≤ i by omega]
theorem sh_alt_fi (C K : Pl) (hC : C.Ok) (n : Nat) (i : Nat) : (sh C.fi n i || sh K.fi (n + C.n) i) = sh (C.alt K).fi n i := by
  by_cases h : i - n < C.n
  · by_cases k : n ≤ i
    · simp [sh, Pl.alt, h, k, show ¬ n + C.n ≤ i by omega]
    · simp [sh, k, show ¬ n + C.n ≤ i by omega]
  · have h3 := hC.fi (i - n) (by omega)
    by_cases k : n ≤ i
    · simp [sh, Pl.alt, h, h3, k, show n + C.n ≤ i by omega, Nat.sub_sub]
    · simp [sh, k, show ¬ n + C.n ≤ i by omega]
theorem sh_alt_la (C K : Pl) (hC : C.Ok) (n : Nat) (i : Nat) : (sh C.la n i || sh K.la (n + C.n) i) = sh (C.alt K).la n i := by
  by_cases h : i - n < C.n
  · by_cases k : n ≤ i
    · simp [sh, Pl.alt, h, k, show ¬ n + C.n ≤ i by omega]
    · simp [sh, k, show ¬ n + C.n ≤ i by omega]
  · have h3 := hC.la (i - n) (by omega)
    by_cases k : n ≤ i
    · simp [sh, Pl.alt, h, h3, k, show n + C.n ≤ i by omega, Nat.sub_sub]
    · simp [sh, k, show ¬ n + C.n ≤ i by omega]
/-- A list of numbers that rise: those of a set. -/
def IsL (l : List Int) (p : Nat → Bool) : Prop := l.Pairwise (· < ·) ∧ ∀ x : Int, x ∈ l ↔ ∃ i : Nat, x = i ∧ p i = true
theorem rise_uniq : ∀ {l m : List Int}, l.Pairwise (· < ·) → m.Pairwise (· < ·) → (∀ x, x ∈ l ↔ x ∈ m) → l = m
  | [], [], _, _, _ => rfl
  | [], y :: m, _, _, h => by have := (h y).2 (by simp); simp at this
  | x :: l, [], _, _, h => by have := (h x).1 (by simp); simp at this
  | x :: l, y :: m, h1, h2, h => by
    have a1 := List.pairwise_cons.1 h1
    have a2 := List.pairwise_cons.1 h2
    have hx : x = y := by
      have q1 := (h x).1 (by simp)
      have q2 := (h y).2 (by simp)
      simp only [List.mem_cons] at q1 q2
      rcases q1 with e | e
      · exact e
      · rcases q2 with e' | e'
        · exact e'.symm
        · have := a1.1 y e'; have := a2.1 x e; omega
    subst hx
    congr 1
    refine rise_uniq a1.2 a2.2 fun z => ?_
    have := h z
    simp only [List.mem_cons] at this
    constructor
    · intro hz
      rcases this.1 (Or.inr hz) with e | e
      · have := a1.1 z hz; omega
      · exact e
    · intro hz
      rcases this.2 (Or.inr hz) with e | e
      · have := a2.1 z hz; omega
      · exact e
theorem IsL.uniq {l m : List Int} {p : Nat → Bool} (h : IsL l p) (k : IsL m p) : l = m := rise_uniq h.1 k.1 fun x => (h.2 x).trans (k.2 x).symm
theorem IsL.congr {l : List Int} {p q : Nat → Bool} (h : IsL l p) (e : ∀ i, p i = q i) : IsL l q := by rwa [← funext e]
theorem isL_nil {p : Nat → Bool} (h : ∀ i, p i = false) : IsL [] p := ⟨List.Pairwise.nil, fun x => by simp [h]⟩
theorem isL_one (n : Nat) {p : Nat → Bool} (h : ∀ i, p i = decide (i = n)) : IsL [(n : Int)] p := ⟨List.pairwise_singleton _ _, fun x => by simp [h]⟩
theorem rise_len : ∀ {l : List Int} {a b : Int}, l.Pairwise (· < ·) → (∀ x ∈ l, a ≤ x ∧ x < b) → (l.length : Int) ≤ max 0 (b - a)
  | [], a, b, _, _ => by simp; omega
  | x :: l, a, b, h1, h => by
    have a1 := List.pairwise_cons.1 h1
    have hx := h x (by simp)
    have := rise_len (l := l) (a := x + 1) (b := b) a1.2 fun y hy => ⟨by have := a1.1 y hy; omega, (h y (by simp [hy])).2⟩
    simp only [List.length_cons]
    omega
theorem IsL.len {l : List Int} {p : Nat → Bool} (h : IsL l p) {n : Nat} (hn : ∀ i, n ≤ i → p i = false) : l.length ≤ n := by
  have := rise_len (a := 0) (b := n) h.1 fun x hx => by
    obtain ⟨i, rfl, hi⟩ := (h.2 x).1 hx
    refine ⟨by omega, ?_⟩
    by_cases e : n ≤ i
    · rw [hn i e] at hi; cases hi
    · omega
  omega
/-- Two lists that rise, as one. -/
def mrg : List Int → List Int → List Int
  | [], b => b
  | x :: a, [] => x :: a
  | x :: a, y :: b => if x < y then x :: mrg a (y :: b) else if y < x then y :: mrg (x :: a) b else mrg a (y :: b)
termination_by a b => a.length + b.length
theorem mem_mrg : ∀ (a b : List Int) (z : Int), z ∈ mrg a b ↔ z ∈ a ∨ z ∈ b
  | [], b, z => by simp [mrg]
  | x :: a, [], z => by simp [mrg]
  | x :: a, y :: b, z => by
    rw [mrg]
    split
    · rw [List.mem_cons, mem_mrg a (y :: b) z]; simp only [List.mem_cons, or_assoc]
    · split
      · rw [List.mem_cons, mem_mrg (x :: a) b z]; simp only [List.mem_cons]
        constructor
        · rintro (h | (h | h) | h)
          · exact Or.inr (Or.inl h)
          · exact Or.inl (Or.inl h)
          · exact Or.inl (Or.inr h)
          · exact Or.inr (Or.inr h)
        · rintro ((h | h) | (h | h))
          · exact Or.inr (Or.inl (Or.inl h))
          · exact Or.inr (Or.inl (Or.inr h))
          · exact Or.inl h
          · exact Or.inr (Or.inr h)
      · obtain rfl : x = y := by omega
        rw [mem_mrg a (x :: b) z]; simp only [List.mem_cons]
        constructor
        · rintro (h | h)
          · exact Or.inl (Or.inr h)
          · exact Or.inr h
        · rintro ((h | h) | h)
          · exact Or.inr (Or.inl h)
          · exact Or.inl h
          · exact Or.inr h
termination_by a b => a.length + b.length
theorem mrg_rise : ∀ {a b : List Int}, a.Pairwise (· < ·) → b.Pairwise (· < ·) → (mrg a b).Pairwise (· < ·)
  | [], b, _, hb => by simpa [mrg] using hb
  | x :: a, [], ha, _ => by simpa [mrg] using ha
  | x :: a, y :: b, ha, hb => by
    have a1 := List.pairwise_cons.1 ha
    have b1 := List.pairwise_cons.1 hb
    rw [mrg]
    split
    · refine List.pairwise_cons.2 ⟨fun z hz => ?_, mrg_rise a1.2 hb⟩
      rcases (mem_mrg _ _ _).1 hz with h | h
      · exact a1.1 z h
      · rcases List.mem_cons.1 h with h | h
        · omega
        · have := b1.1 z h; omega
    · split
      · refine List.pairwise_cons.2 ⟨fun z hz => ?_, mrg_rise ha b1.2⟩
        rcases (mem_mrg _ _ _).1 hz with h | h
        · rcases List.mem_cons.1 h with h | h
          · omega
          · have := a1.1 z h; omega
        · exact b1.1 z h
      · exact mrg_rise a1.2 hb
termination_by a b => a.length + b.length
theorem IsL.mrg {l m : List Int} {p q : Nat → Bool} (h : IsL l p) (k : IsL m q) : IsL (mrg l m) fun i => p i || q i := by
  refine ⟨mrg_rise h.1 k.1, fun x => ?_⟩
  rw [mem_mrg, h.2, k.2]
  constructor
  · rintro (⟨i, e, hi⟩ | ⟨i, e, hi⟩)
    · exact ⟨i, e, by simp [hi]⟩
    · exact ⟨i, e, by simp [hi]⟩
  · rintro ⟨i, e, hi⟩
    rcases Bool.or_eq_true _ _ ▸ hi with hi | hi
    · exact Or.inl ⟨i, e, hi⟩
    · exact Or.inr ⟨i, e, hi⟩
theorem IsL.moved {l : List Int} {p : Nat → Bool} (h : IsL l p) (n : Nat) : IsL (l.map fun x => x + n) (sh p n) := by
  refine ⟨List.pairwise_map.2 (h.1.imp fun {a b} hab => by omega), fun x => ?_⟩
  simp only [List.mem_map, h.2]
  constructor
  · rintro ⟨_, ⟨i, rfl, hi⟩, rfl⟩
    exact ⟨i + n, by omega, by simp [sh, hi]⟩
  · rintro ⟨i, rfl, hi⟩
    simp only [sh, Bool.and_eq_true, decide_eq_true_eq] at hi
    exact ⟨((i - n : Nat) : Int), ⟨i - n, rfl, hi.2⟩, by omega⟩
end Go.Proofs.Ytbahadgcmaabcaa
