/- Patterns of Size nought match the empty text alone; steps: what they match, how they lie in memory, and what they have been asked. -/
import Derived.Test.YtnfchlkdppblfaaEa
namespace Go.Proofs.Ytnfchlkdppblfaa
open Go.RowKit
theorem sumTo_zero {f : Nat → Nat} : ∀ {n : Nat}, sumTo f n = 0 → ∀ i, i < n → f i = 0
  | 0, _, i, hi => by omega
  | n + 1, h, i, hi => by
    simp only [sumTo] at h
    rcases Nat.lt_or_ge i n with q | q
    · exact sumTo_zero (n := n) (by omega) i q
    · rw [show i = n by omega]; omega
theorem counts_hi {t : Tr} (h : fitsB t = true) (hk : t.k = 5) : t.hi = -1 ∨ (t.lo ≤ t.hi ∧ 1 ≤ t.hi) := by
  unfold fitsB at h
  rw [if_neg (by omega), if_neg (by omega), if_pos hk] at h
  simp only [Bool.and_eq_true, decide_eq_true_eq, countsB, Bool.or_eq_true] at h
  omega
theorem chain_ids {r : Nat → Nat → Nat → Prop} : ∀ {n : Nat}, (∀ q, q < n → r q = fun i j => i = j) → chain r n = fun i j => i = j
  | 0, _ => rfl
  | n + 1, h => ext2 fun i j => by
    rw [chain, chain_ids (n := n) fun q hq => h q (by omega), h n (by omega)]
    exact ⟨fun ⟨x, e, e'⟩ => e.trans e', fun e => ⟨i, rfl, e⟩⟩
theorem pw_id : ∀ q i j, pw (fun i j => i = j) q i j ↔ i = j
  | 0, _, _ => Iff.rfl
  | q + 1, i, j => ⟨fun ⟨x, h, e⟩ => ((pw_id q i x).1 h).trans e, fun e => ⟨i, (pw_id q i i).2 rfl, e⟩⟩
theorem tms_id {lo hi : Int} (h0 : 0 ≤ lo) (hh : hi = -1 ∨ (lo ≤ hi ∧ 1 ≤ hi)) : tms (fun i j => i = j) lo hi = fun i j => i = j := ext2 fun i j => by
  constructor
  · rintro ⟨q, _, _, h⟩; exact (pw_id q i j).1 h
  · intro e; exact ⟨lo.toNat, by omega, by omega, (pw_id _ i j).2 e⟩
theorem mt_zero (c : Nat → Int) (L : Nat) : ∀ {t : Tr}, fitT t = true → sz t = 0 → mt c L t = fun i j => i = j
  | .node k s lo hi a n cap kid, hf, hz => by
    have hfit := fitT_fits hf
    have hk := fun i (hi : i < n) => mt_zero c L (t := kid i) (fitT_kid hf hi)
    have hs := sz_eq (.node k s lo hi a n cap kid)
    rw [hz] at hs
    have hc := fits_cases hfit
    have hh := counts_hi hfit
    have h3 : k = 3 ∨ k = 4 → sumTo (fun i => sz (kid i)) n = 0 := fun q => by
      have e1 : timT (.node k s lo hi a n cap kid) = 1 := if_pos q
      rw [e1, Nat.one_mul] at hs
      have : sumTo (fun i => sz (kid i)) n = sumTo (fun i => sz ((Tr.node k s lo hi a n cap kid).kid i)) (Tr.node k s lo hi a n cap kid).n := rfl
      omega
    have h5 : k = 5 → timT (.node k s lo hi a n cap kid) = repM lo hi := fun q => (if_neg (show ¬ (k = 3 ∨ k = 4) by omega)).trans (if_pos q)
    have h2' : k = 2 → ownT (.node k s lo hi a n cap kid) = 1 := fun q => if_pos q
    simp only [Tr.k, Tr.n, Tr.lo, Tr.hi, Tr.kid] at hs hc hh
    rcases hc with ⟨rfl, rfl⟩ | ⟨rfl, rfl⟩ | ⟨h34, h2⟩ | ⟨rfl, rfl, h0, _, _, _⟩
    · exact ext2 fun i j => by simp [mt]
    · rw [h2' rfl] at hs; omega
    · have hz' := fun i (hi : i < n) => hk i hi (sumTo_zero (f := fun i => sz (kid i)) (h3 h34) i hi)
      rcases h34 with rfl | rfl
      · have := chain_ids (r := fun q => mt c L (kid q)) hz'
        exact ext2 fun i j => by simp [mt, this]
      · exact ext2 fun i j => by
          simp only [mt]
          rw [if_neg (by omega), if_neg (by omega), if_neg (by omega), if_pos trivial]
          constructor
          · rintro ⟨q, hq, h⟩; rw [hz' q hq] at h; exact h
          · intro e; exact ⟨0, by omega, by rw [hz' 0 (by omega)]; exact e⟩
    · have hz' := hk 0 (by omega) (by
        simp only [sumTo] at hs
        have : 0 < repM lo hi := by unfold repM; omega
        rw [h5 rfl, Nat.zero_add] at hs
        rcases Nat.eq_zero_or_pos (sz (kid 0)) with q | q
        · exact q
        · have := Nat.mul_pos this q; omega)
      have := tms_id h0 (hh rfl)
      exact ext2 fun i j => by simp [mt, hz', this]
  | .nul, hf, _ => by cases hf
/-- A step, with the place of its kids and the number of the map of what it has reached. -/
inductive St where
  | node (k : Int) (s : Nat → Int) (a : Option Addr) (n cap : Nat) (m : Option Nat) (kid : Nat → St)
  | nul
namespace St
def k : St → Int | .node k _ _ _ _ _ _ => k | .nul => 0
def s : St → Nat → Int | .node _ s _ _ _ _ _ => s | .nul => fun _ => 0
def a : St → Option Addr | .node _ _ a _ _ _ _ => a | .nul => none
def n : St → Nat | .node _ _ _ n _ _ _ => n | .nul => 0
def cap : St → Nat | .node _ _ _ _ cap _ _ => cap | .nul => 0
def m : St → Option Nat | .node _ _ _ _ _ m _ => m | .nul => none
def kid : St → Nat → St | .node _ _ _ _ _ _ kid => kid | .nul => fun _ => .nul
end St
abbrev stepV (k : Int) (s : Nat → Int) (v m : Value) : Value := .agg #[.int .i64 k, .int .u64 (s 0), .int .u64 (s 1), .int .u64 (s 2), .int .u64 (s 3), v, m]
abbrev row7 (k : Int) (s : Nat → Int) (v m : Value) : Array Value := #[.int .i64 k, .int .u64 (s 0), .int .u64 (s 1), .int .u64 (s 2), .int .u64 (s 3), v, m]
def St.val (t : St) : Value := stepV t.k t.s (.slice t.a t.n t.cap) (.map t.m)
/-- A step's seven cells. -/
def At7 (w : World) (g o : Nat) (t : St) : Prop :=
  w.cell? ⟨g, o, none⟩ = some (.int .i64 t.k) ∧ w.cell? ⟨g, o + 1, none⟩ = some (.int .u64 (t.s 0)) ∧ w.cell? ⟨g, o + 2, none⟩ = some (.int .u64 (t.s 1)) ∧ w.cell? ⟨g, o + 3, none⟩ = some (.int .u64 (t.s 2)) ∧
    w.cell? ⟨g, o + 4, none⟩ = some (.int .u64 (t.s 3)) ∧ w.cell? ⟨g, o + 5, none⟩ = some (.slice t.a t.n t.cap) ∧ w.cell? ⟨g, o + 6, none⟩ = some (.map t.m)
/-- All the kids lie in memory, in blocks below B. -/
def SLv (w : World) (B : Nat) : St → Prop
  | .node _ s a n cap _ kid => Wf s ∧ n ≤ cap ∧ cap ≤ maxLen ∧ (0 < n → ∃ g off, a = some ⟨g, off, none⟩ ∧ g < B ∧ ∀ i, i < n → At7 w g (off + i * 7) (kid i)) ∧ ∀ i, i < n → SLv w B (kid i)
  | .nul => False
theorem At7.below {w w' : World} {B g o : Nat} {t : St} (h : At7 w g o t) (hg : g < B) (hb : Below B w w') : At7 w' g o t := by
  obtain ⟨h0, h1, h2, h3, h4, h5, h6⟩ := h
  exact ⟨(hb.cell (p := ⟨g, _, none⟩) hg).trans h0, (hb.cell (p := ⟨g, _, none⟩) hg).trans h1, (hb.cell (p := ⟨g, _, none⟩) hg).trans h2, (hb.cell (p := ⟨g, _, none⟩) hg).trans h3, (hb.cell (p := ⟨g, _, none⟩) hg).trans h4, (hb.cell (p := ⟨g, _, none⟩) hg).trans h5, (hb.cell (p := ⟨g, _, none⟩) hg).trans h6⟩
theorem SLv.below {w w' : World} {B : Nat} (hb : Below B w w') : ∀ {t : St}, SLv w B t → SLv w' B t
  | .node _ _ _ _ _ _ kid, ⟨hs, h1, h2, hc, hk⟩ => ⟨hs, h1, h2, fun hp => by obtain ⟨g, off, ha, hg, hc⟩ := hc hp; exact ⟨g, off, ha, hg, fun i hi => (hc i hi).below hg hb⟩, fun i hi => SLv.below hb (t := kid i) (hk i hi)⟩
  | .nul, h => False.elim h
theorem SLv.mono {w : World} {B B' : Nat} (hb : B ≤ B') : ∀ {t : St}, SLv w B t → SLv w B' t
  | .node _ _ _ _ _ _ kid, ⟨hs, h1, h2, hc, hk⟩ => ⟨hs, h1, h2, fun hp => by obtain ⟨g, off, ha, hg, hc⟩ := hc hp; exact ⟨g, off, ha, Nat.lt_of_lt_of_le hg hb, hc⟩, fun i hi => SLv.mono hb (t := kid i) (hk i hi)⟩
  | .nul, h => False.elim h
/-- What a step matches. -/
def rel (c : Nat → Int) (L : Nat) : St → Nat → Nat → Prop
  | .node k s _ n _ _ kid => fun i j =>
    if k = 1 then i = j else if k = 2 then bytR c L s i j else if k = 3 then chain (fun q => rel c L (kid q)) n i j
    else if k = 4 then ∃ q, q < n ∧ rel c L (kid q) i j else plus (rel c L (kid 0)) i j
  | .nul => fun _ _ => False
/-- How steps are made: an Alt has two kids or more, and just two if the second is Empty; a Rep has one; all but Bytes have a map. -/
def Shp : St → Prop
  | .node k _ _ n _ m kid => (k = 1 ∨ k = 2 ∨ k = 3 ∨ (k = 4 ∧ 2 ≤ n ∧ ((kid 1).k = 1 → n = 2)) ∨ (k = 5 ∧ n = 1)) ∧ (k ≠ 2 → ∃ b, m = some b) ∧ ∀ i, i < n → Shp (kid i)
  | .nul => False
/-- The maps of a step. -/
def mem : St → Nat → Prop
  | .node _ _ _ n _ m kid => fun b => m = some b ∨ ∃ i, i < n ∧ mem (kid i) b
  | .nul => fun _ => False
/-- No map is there twice. -/
def Sep : St → Prop
  | .node _ _ _ n _ m kid => (∀ b, m = some b → ∀ i, i < n → ¬ mem (kid i) b) ∧ (∀ i j, i < j → j < n → ∀ b, mem (kid i) b → ¬ mem (kid j) b) ∧ ∀ i, i < n → Sep (kid i)
  | .nul => True
theorem rel_alt {c : Nat → Int} {L : Nat} {t : St} (h : t.k = 4) : rel c L t = fun i j => ∃ q, q < t.n ∧ rel c L (t.kid q) i j := by
  cases t with
  | node k s a n cap m kid => obtain rfl : k = 4 := h; exact ext2 fun i j => by simp [rel, St.n, St.kid]
  | nul => simp [St.k] at h
theorem rel_rep {c : Nat → Int} {L : Nat} {t : St} (h : t.k = 5) : rel c L t = plus (rel c L (t.kid 0)) := by
  cases t with
  | node k s a n cap m kid => obtain rfl : k = 5 := h; exact ext2 fun i j => by simp [rel, St.kid]
  | nul => simp [St.k] at h
theorem rel_cat {c : Nat → Int} {L : Nat} {t : St} (h : t.k = 3) : rel c L t = chain (fun q => rel c L (t.kid q)) t.n := by
  cases t with
  | node k s a n cap m kid => obtain rfl : k = 3 := h; exact ext2 fun i j => by simp [rel, St.kid, St.n]
  | nul => simp [St.k] at h
theorem rel_byt {c : Nat → Int} {L : Nat} {t : St} (h : t.k = 2) : rel c L t = bytR c L t.s := by
  cases t with
  | node k s a n cap m kid => obtain rfl : k = 2 := h; exact ext2 fun i j => by simp [rel, St.s]
  | nul => simp [St.k] at h
theorem rel_emp {c : Nat → Int} {L : Nat} {t : St} (h : t.k = 1) : rel c L t = fun i j => i = j := by
  cases t with
  | node k s a n cap m kid => obtain rfl : k = 1 := h; exact ext2 fun i j => by simp [rel]
  | nul => simp [St.k] at h
/-- Made by optional. -/
def isOpt (t : St) : Prop := t.k = 4 ∧ (t.kid 1).k = 1
theorem rel_opt {c : Nat → Int} {L : Nat} {t : St} (hS : Shp t) (h : isOpt t) : rel c L t = opt (rel c L (t.kid 0)) := by
  rw [rel_alt h.1]
  have hn : t.n = 2 := by
    cases t with
    | node k s a n cap m kid =>
      have h4 : k = 4 := h.1
      have h1 : (kid 1).k = 1 := h.2
      have := hS.1
      rcases this with q | q | q | q | q
      · omega
      · omega
      · omega
      · exact q.2.2 h1
      · omega
    | nul => exact hS.elim
  exact ext2 fun i j => by
    rw [hn]
    constructor
    · rintro ⟨q, hq, h'⟩
      rcases (show q = 0 ∨ q = 1 by omega) with rfl | rfl
      · exact Or.inl h'
      · rw [rel_emp h.2] at h'; exact Or.inr h'
    · rintro (h' | e)
      · exact ⟨0, by omega, h'⟩
      · exact ⟨1, by omega, by rw [rel_emp h.2]; exact e⟩
end Go.Proofs.Ytnfchlkdppblfaa
