/- Contract of the landed code's Size, for any pattern as in the table. -/
import Derived.Test.YtbahadgcmaabcaaZ
namespace Go.Proofs.Ytbahadgcmaabcaa
open Go.RowKit
/-- What a pattern itself adds to a Size, and by what it multiplies that of its kids. -/
def ownT (t : Tr) : Nat := if t.k = 2 then 1 else 0
def timT (t : Tr) : Nat := if t.k = 3 ∨ t.k = 4 then 1 else if t.k = 5 then repM t.lo t.hi else 0
/-- A pattern's Size, without a most. -/
def sz : Tr → Nat
  | .node k s lo hi a n cap kid => ownT (.node k s lo hi a n cap kid) + timT (.node k s lo hi a n cap kid) * sumTo (fun i => sz (kid i)) n
  | .nul => 0
theorem sz_eq (t : Tr) : sz t = ownT t + timT t * sumTo (fun i => sz (t.kid i)) t.n := by
  cases t with
  | node => rfl
  | nul => simp [sz, ownT, timT, Tr.k]
/-- All in a pattern are as in the table. -/
def fitT : Tr → Bool
  | .node k s lo hi a n cap kid => fitsB (.node k s lo hi a n cap kid) && allTo (fun i => fitT (kid i)) n
  | .nul => false
theorem fitT_fits {t : Tr} (h : fitT t = true) : fitsB t = true := by
  cases t with
  | node => simp only [fitT, Bool.and_eq_true] at h; exact h.1
  | nul => cases h
theorem fitT_kid {t : Tr} (h : fitT t = true) {i : Nat} (hi : i < t.n) : fitT (t.kid i) = true := by
  cases t with
  | node => simp only [fitT, Bool.and_eq_true] at h; exact allTo_iff.1 h.2 i hi
  | nul => cases h
theorem fit_of_ok : ∀ {t : Tr} {lv : Nat}, okT t lv = true → fitT t = true
  | .node _ _ _ _ _ _ _ kid, lv, h => by
    simp only [okT, fitT, Bool.and_eq_true, allTo_iff] at h ⊢
    exact ⟨h.2.1, fun i hi => fit_of_ok (t := kid i) (h.2.2 i hi)⟩
  | .nul, _, h => by cases h
/-- What the table says of the kinds. -/
theorem fits_cases {t : Tr} (h : fitsB t = true) : (t.k = 1 ∧ t.n = 0) ∨ (t.k = 2 ∧ t.n = 0) ∨ ((t.k = 3 ∨ t.k = 4) ∧ 2 ≤ t.n) ∨ (t.k = 5 ∧ t.n = 1 ∧ 0 ≤ t.lo ∧ t.lo ≤ 20 ∧ -1 ≤ t.hi ∧ t.hi ≤ 20) := by
  unfold fitsB at h
  split at h
  · rename_i q; simp only [Bool.and_eq_true, decide_eq_true_eq] at h; exact Or.inr (Or.inl ⟨q, h.2.2⟩)
  · split at h
    · rename_i q; simp only [Bool.and_eq_true, decide_eq_true_eq] at h; exact Or.inl ⟨q, h.2⟩
    · split at h
      · rename_i q; simp only [Bool.and_eq_true, decide_eq_true_eq, countsB, Bool.or_eq_true] at h; exact Or.inr (Or.inr (Or.inr ⟨q, h.2.2, h.1.1, h.1.2.1, by omega, by omega⟩))
      · split at h
        · rename_i q; simp only [Bool.and_eq_true, decide_eq_true_eq] at h; exact Or.inr (Or.inr (Or.inl ⟨q, h.2.1⟩))
        · cases h
theorem weight_any (t : Tr) (h : fitsB t = true) (w : World) : Calls Try.prog 53 #[t.val] w fun e w' => e = .returned (two (ownT t) (timT t)) ∧ Below w.heap.size w w' := by
  have hc := fits_cases h
  clear h
  cases t with
  | nul => simp only [Tr.k, Tr.n, Tr.lo, Tr.hi] at hc; omega
  | node k s lo hi a n cap kid =>
  simp only [Tr.k, Tr.n, Tr.lo, Tr.hi] at hc
  rcases hc with ⟨rfl, _⟩ | ⟨rfl, _⟩ | ⟨hk, _⟩ | ⟨rfl, _, _, h1, _, h2⟩
  · exact weight_empty s lo hi _ w
  · exact weight_bytes s lo hi _ w
  · have e1 : ownT (.node k s lo hi a n cap kid) = 0 := by unfold ownT; rw [if_neg]; show ¬ k = 2; omega
    have e2 : timT (.node k s lo hi a n cap kid) = 1 := by unfold timT; rw [if_pos]; exact hk
    rw [e1, e2]
    exact weight_many k hk s lo hi _ w
  · exact weight_rep s lo hi h1 h2 _ w
/-- Kids that are still to be visited, and how often they count. -/
structure Br where
  g : Nat
  off : Nat
  n : Nat
  cap : Nat
  kid : Nat → Tr
  m : Nat
abbrev Br.sl (b : Br) : Value := .slice (some ⟨b.g, b.off, none⟩) b.n b.cap
def flatB (bs : List Br) : List Value := bs.flatMap fun b => [b.sl, .int .i64 b.m]
theorem flatB_append (bs cs : List Br) : flatB (bs ++ cs) = flatB bs ++ flatB cs := by simp [flatB]
theorem flatB_length (bs : List Br) : (flatB bs).length = bs.length * 2 := by
  induction bs with
  | nil => rfl
  | cons b r ih => simp [flatB] at ih ⊢; omega
/-- What is left behind the first kid. -/
def tailB (b : Br) : List Br := if b.n = 1 then [] else [⟨b.g, b.off + 8, b.n - 1, b.cap - 1, fun i => b.kid (i + 1), b.m⟩]
/-- They lie in memory, in blocks below B, and are as in the table. -/
def BrL (w : World) (B : Nat) (b : Br) : Prop :=
  0 < b.n ∧ b.n ≤ b.cap ∧ b.cap ≤ maxLen ∧ b.g < B ∧ b.m ≤ 1000000 ∧ (∀ i, i < b.n → At8 w b.g (b.off + i * 8) (b.kid i)) ∧ ∀ i, i < b.n → Lives w B (b.kid i) ∧ fitT (b.kid i) = true
theorem BrL.below {w w' : World} {B : Nat} {b : Br} (h : BrL w B b) (hb : Below B w w') : BrL w' B b := by
  obtain ⟨h1, h2, h3, h4, h5, h6, h7⟩ := h
  exact ⟨h1, h2, h3, h4, h5, fun i hi => (h6 i hi).below h4 hb, fun i hi => ⟨(h7 i hi).1.below hb, (h7 i hi).2⟩⟩
theorem BrL.tail {w : World} {B : Nat} {b : Br} (h : BrL w B b) : ∀ c ∈ tailB b, BrL w B c := by
  obtain ⟨h1, h2, h3, h4, h5, h6, h7⟩ := h
  intro c hc
  unfold tailB at hc
  split at hc
  · cases hc
  · rename_i q
    rw [List.mem_singleton] at hc
    subst hc
    refine ⟨by show 0 < b.n - 1; omega, by show b.n - 1 ≤ b.cap - 1; omega, by show b.cap - 1 ≤ maxLen; omega, h4, h5, fun i hi => ?_, fun i hi => h7 (i + 1) (by have : i < b.n - 1 := hi; omega)⟩
    have := h6 (i + 1) (by have : i < b.n - 1 := hi; omega)
    rw [show b.off + (i + 1) * 8 = b.off + 8 + i * 8 by omega] at this
    exact this
theorem sumTo_front (f : Nat → Nat) : ∀ n, sumTo f (n + 1) = f 0 + sumTo (fun i => f (i + 1)) n
  | 0 => by simp [sumTo]
  | n + 1 => by
    rw [sumTo, sumTo_front f n]
    simp only [sumTo]
    omega
/-- A number summed over all that is still to be visited. -/
def sumB (f : Tr → Nat) (b : Br) : Nat := sumTo (fun i => f (b.kid i)) b.n
def pend (bs : List Br) : Nat := (bs.map (sumB cnt)).sum
def dsc (t : Tr) : Nat := sumTo (fun i => cnt (t.kid i)) t.n
theorem cnt_dsc (t : Tr) : cnt t = 1 + dsc t := by cases t <;> rfl
def rest (bs : List Br) : Nat := (bs.map (sumB dsc)).sum
def tot (bs : List Br) : Nat := (bs.map fun b => b.m * sumB sz b).sum
theorem sumB_tail (f : Tr → Nat) {b : Br} (h : 0 < b.n) : sumB f b = f (b.kid 0) + ((tailB b).map (sumB f)).sum := by
  unfold tailB
  split
  · rename_i q
    unfold sumB
    rw [q]
    simp [sumTo]
  · simp only [List.map_cons, List.map_nil, List.sum_cons, List.sum_nil, Nat.add_zero]
    unfold sumB
    show sumTo _ b.n = _ + sumTo _ (b.n - 1)
    rw [show b.n = (b.n - 1) + 1 by omega, sumTo_front]
    simp
theorem tot_tail {b : Br} (h : 0 < b.n) : b.m * sumB sz b = b.m * sz (b.kid 0) + tot (tailB b) := by
  rw [sumB_tail sz h, Nat.mul_add]
  congr 1
  unfold tailB tot
  split
  · simp
  · simp
theorem pend_append (bs cs : List Br) : pend (bs ++ cs) = pend bs + pend cs := by simp [pend]
theorem rest_append (bs cs : List Br) : rest (bs ++ cs) = rest bs + rest cs := by simp [rest]
theorem tot_append (bs cs : List Br) : tot (bs ++ cs) = tot bs + tot cs := by simp [tot]
theorem pend_one (b : Br) : pend [b] = sumB cnt b := by simp [pend]
theorem rest_one (b : Br) : rest [b] = sumB dsc b := by simp [rest]
theorem tot_one (b : Br) : tot [b] = b.m * sumB sz b := by simp [tot]
theorem pend_pop (bs : List Br) {b : Br} (h : 0 < b.n) : pend (bs ++ [b]) = pend (bs ++ tailB b) + cnt (b.kid 0) := by
  rw [pend_append, pend_append, pend_one, sumB_tail cnt h]; unfold pend; omega
theorem rest_pop (bs : List Br) {b : Br} (h : 0 < b.n) : rest (bs ++ [b]) = rest (bs ++ tailB b) + dsc (b.kid 0) := by
  rw [rest_append, rest_append, rest_one, sumB_tail dsc h]; unfold rest; omega
theorem tot_pop (bs : List Br) {b : Br} (h : 0 < b.n) : tot (bs ++ [b]) = tot (bs ++ tailB b) + b.m * sz (b.kid 0) := by
  rw [tot_append, tot_append, tot_one, tot_tail h]; omega
theorem sumTo_add (f g : Nat → Nat) : ∀ n, sumTo (fun i => f i + g i) n = sumTo f n + sumTo g n
  | 0 => rfl
  | n + 1 => by simp only [sumTo, sumTo_add f g n]; omega
theorem sumTo_ones : ∀ n, sumTo (fun _ => 1) n = n
  | 0 => rfl
  | n + 1 => by simp only [sumTo, sumTo_ones n]
/-- The patterns below, one level down. -/
theorem dsc_split (t : Tr) : dsc t = t.n + sumTo (fun i => dsc (t.kid i)) t.n := by
  unfold dsc
  rw [show (fun i => cnt (t.kid i)) = fun i => 1 + dsc (t.kid i) from funext fun i => cnt_dsc _, sumTo_add, sumTo_ones]
  rfl
theorem pend_len (bs : List Br) (h : ∀ b ∈ bs, 0 < b.n) : bs.length ≤ pend bs := by
  induction bs with
  | nil => simp
  | cons b r ih =>
    have h1 := ih fun c hc => h c (List.mem_cons_of_mem _ hc)
    have h2 : 1 ≤ sumB cnt b := by rw [sumB_tail cnt (h b List.mem_cons_self)]; have := cnt_pos (b.kid 0); omega
    simp only [pend, List.map_cons, List.sum_cons, List.length_cons] at h1 ⊢
    omega
theorem min_mul (A r m Z : Nat) (_hr : 0 < r) : min 1000000 (A + min (r * m) 1000000 * Z) = min 1000000 (A + m * (r * Z)) := by
  rcases Nat.le_total (r * m) 1000000 with q | q
  · rw [Nat.min_eq_left q, ← Nat.mul_assoc, Nat.mul_comm m r]
  · rw [Nat.min_eq_right q]
    rcases Nat.eq_zero_or_pos Z with rfl | hZ
    · simp
    · have h1 : 1000000 ≤ 1000000 * Z := Nat.le_mul_of_pos_right _ hZ
      have h2 : 1000000 ≤ m * (r * Z) := by
        rw [← Nat.mul_assoc, Nat.mul_comm m r]
        exact Nat.le_trans q (Nat.le_mul_of_pos_right _ hZ)
      omega
theorem leave_any (b : Br) (base L : Nat) (xs : List Value) (v : Value) (w : World) (hn : 0 < b.n) (hcap : b.n ≤ b.cap) (hL : L ≤ 5000) (hbase : base ≤ w.heap.size) (hown : w.ownsRow base 80 2 v L xs) :
    Calls Try.prog 52 #[.agg #[b.sl, .int .i64 b.m], v] w fun e w' => ∃ v', e = .returned v' ∧ w'.ownsRow base 80 2 v' (L + (tailB b).length) (xs ++ flatB (tailB b)) ∧ w.grownBy w' v.ownBlock := by
  obtain ⟨g, off, n, cap, kid, m⟩ := b
  by_cases h1 : n = 1
  · subst h1
    refine (leave_one _ cap m v w).mono ?_
    rintro e w' ⟨rfl, o, rfl⟩
    refine ⟨v, rfl, ?_, World.grownBy_alloc _ _ _⟩
    have := hown.alloc o
    simpa [tailB, flatB] using this
  · refine (leave_more g off n cap m base L xs v w (by have : 0 < n := hn; omega) hcap hL hbase hown).mono ?_
    rintro e w' ⟨v', rfl, hown', hg⟩
    refine ⟨v', rfl, ?_, hg⟩
    simpa [tailB, flatB, h1] using hown'
/-- What holds of what is still to be visited. -/
def SzI (B N T gk S E : Nat) (v : Value) (wr : World) : Prop :=
  ∃ bs : List Br, wr.ownsRow B 80 2 v bs.length (flatB bs) ∧ (∀ b ∈ bs, BrL wr B b) ∧ gk = pend bs ∧ pend bs ≤ 2000 ∧ E + rest bs ≤ N ∧ min 1000000 (S + tot bs) = min 1000000 T
theorem szI_empty {B N T gk S E : Nat} {a : Option Addr} {c : Nat} {wr : World} (h : SzI B N T gk S E (.slice a 0 c) wr) : min S 1000000 = min 1000000 T := by
  obtain ⟨bs, hown, _, _, _, _, ht⟩ := h
  have : bs = [] := by
    obtain ⟨_, ⟨_, h0⟩ | ⟨g, cap, cur, hv, _⟩⟩ := hown
    · exact List.eq_nil_of_length_eq_zero h0
    · injection hv with _ h1 _; exact List.eq_nil_of_length_eq_zero h1.symm
  subst this
  simp [tot] at ht
  omega
theorem szI_full {B N T gk S E : Nat} {v : Value} {wr : World} (h : SzI B N T gk S E v wr) (hS : 1000000 ≤ S) : min S 1000000 = min 1000000 T := by
  obtain ⟨bs, _, _, _, _, _, ht⟩ := h
  omega
end Go.Proofs.Ytbahadgcmaabcaa
