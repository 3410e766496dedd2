/- Texts are told apart: patterns. -/
import Derived.Test.YtnfchlkdppblfaaDoorPa
import Derived.Test.YtnfchlkdppblfaaDoorMd
namespace Go.Proofs.YtnfchlkdppblfaaDoor
open Go.RowKit
/-- All the sets in a pattern are of 64 bits a word. -/
def WfT : Tr → Prop
  | .node _ s _ _ _ n _ kid => Wf s ∧ ∀ i, i < n → WfT (kid i)
  | .nul => True
set_option maxRecDepth 100000 in
theorem Lives.wfT {w : World} {B : Nat} : ∀ {t : Tr}, Lives w B t → WfT t
  | .node _ _ _ _ _ _ _ kid, h => ⟨h.1, fun i hi => Lives.wfT (t := kid i) (h.2.2.2.2 i hi)⟩
  | .nul, h => False.elim h
/-- A pattern that is as the table says, with all its parts. -/
def Ok (t : Tr) : Prop := fitT t = true ∧ WfT t
set_option maxRecDepth 100000 in
theorem Ok.kid {t : Tr} (h : Ok t) {i : Nat} (hi : i < t.n) : Ok (t.kid i) := by
  refine ⟨fitT_kid h.1 hi, ?_⟩
  cases t with
  | nul => simp [Tr.n] at hi
  | node k s lo hi' a n cap kid => exact h.2.2 i hi
set_option maxRecDepth 100000 in
theorem Ok.wf {t : Tr} (h : Ok t) : Wf t.s := by
  cases t with
  | nul => exact wf_z0
  | node k s lo hi' a n cap kid => exact h.2.1
set_option maxRecDepth 100000 in
theorem Ok.cases {t : Tr} (h : Ok t) : (t.k = 1 ∧ t.n = 0) ∨ (t.k = 2 ∧ t.n = 0) ∨ ((t.k = 3 ∨ t.k = 4) ∧ 2 ≤ t.n) ∨ (t.k = 5 ∧ t.n = 1) := by
  rcases fits_cases (fitT_fits h.1) with q | q | q | ⟨q, q', _⟩
  · exact Or.inl q
  · exact Or.inr (Or.inl q)
  · exact Or.inr (Or.inr (Or.inl q))
  · exact Or.inr (Or.inr (Or.inr ⟨q, q'⟩))
set_option maxRecDepth 100000 in
/-- What else the table says. -/
theorem Ok.more {t : Tr} (h : Ok t) : (t.k ≠ 2 → eqS t.s z0 = true) ∧ (t.k ≠ 5 → t.lo = 0 ∧ t.hi = 0) ∧ (t.k = 5 → okC t.lo t.hi) := by
  have hf := fitT_fits h.1
  unfold fitsB at hf
  by_cases h2 : t.k = 2
  · rw [if_pos h2] at hf
    simp only [plainB, Bool.and_eq_true, decide_eq_true_eq] at hf
    exact ⟨fun q => absurd h2 q, fun _ => hf.2.1.2, fun q => by omega⟩
  · rw [if_neg h2] at hf
    by_cases h1 : t.k = 1
    · rw [if_pos h1] at hf
      simp only [plainB, Bool.and_eq_true, decide_eq_true_eq] at hf
      exact ⟨fun _ => hf.1.1, fun _ => hf.1.2, fun q => by omega⟩
    · rw [if_neg h1] at hf
      by_cases h5 : t.k = 5
      · rw [if_pos h5] at hf
        simp only [plainB, countsB, Bool.and_eq_true, Bool.or_eq_true, decide_eq_true_eq] at hf
        refine ⟨fun _ => hf.2.1.1, fun q => absurd h5 q, fun _ => ⟨hf.1.1, hf.1.2.1, ?_⟩⟩
        rcases hf.1.2.2 with q | q
        · exact Or.inl q
        · exact Or.inr (by omega)
      · rw [if_neg h5] at hf
        by_cases h34 : t.k = 3 ∨ t.k = 4
        · rw [if_pos h34] at hf
          simp only [plainB, Bool.and_eq_true, decide_eq_true_eq] at hf
          exact ⟨fun _ => hf.1.1, fun _ => hf.1.2, fun q => by omega⟩
        · rw [if_neg h34] at hf; cases hf
set_option maxRecDepth 100000 in
theorem eqS_both {s s' : Nat → Int} (h : eqS s z0 = true) (h' : eqS s' z0 = true) : eqS s s' = true := by
  simp only [eqS, Bool.and_eq_true, beq_iff_eq] at h h' ⊢
  omega
set_option maxRecDepth 100000 in
theorem like_of {t u : Tr} (ht : Ok t) (hu : Ok u) (hk : t.k = u.k) (h2 : t.k = 2 → eqS t.s u.s = true) (h5 : t.k = 5 → t.lo = u.lo ∧ t.hi = u.hi) (hn : t.n = u.n) : likeB t u = true := by
  obtain ⟨t1, t2, _⟩ := ht.more
  obtain ⟨u1, u2, _⟩ := hu.more
  have hs : eqS t.s u.s = true := by
    by_cases q : t.k = 2
    · exact h2 q
    · exact eqS_both (t1 q) (u1 (by omega))
  have hl : t.lo = u.lo ∧ t.hi = u.hi := by
    by_cases q : t.k = 5
    · exact h5 q
    · have a := t2 q; have b := u2 (by omega); omega
  simp only [likeB, hk, hs, hl.1, hl.2, hn, decide_true, Bool.true_and]
set_option maxRecDepth 100000 in
theorem same_of {t u : Tr} (hl : likeB t u = true) (hk : ∀ i, i < t.n → sameT (t.kid i) (u.kid i) = true) : sameT t u = true := by
  rw [sameT_eq, hl, Bool.true_and]; exact allTo_iff.2 hk
/-- Lists of patterns, the same one by one. -/
def sameL : List Tr → List Tr → Prop
  | [], [] => True
  | t :: ts, u :: us => sameT t u = true ∧ sameL ts us
  | _, _ => False
set_option maxRecDepth 100000 in
theorem sameL_get : ∀ {L M : List Tr}, sameL L M → L.length = M.length ∧ ∀ i, i < L.length → sameT (L.getD i .nul) (M.getD i .nul) = true
  | [], [], _ => ⟨rfl, fun i hi => by simp at hi⟩
  | t :: ts, u :: us, h => by
    obtain ⟨h1, h2⟩ := sameL_get h.2
    refine ⟨by simp [h1], fun i hi => ?_⟩
    cases i with
    | zero => exact h.1
    | succ i => exact h2 i (by simpa using hi)
  | [], _ :: _, h => False.elim h
  | _ :: _, [], h => False.elim h
set_option maxRecDepth 100000 in
theorem kidsL_getD {kid : Nat → Tr} {n i : Nat} (hi : i < n) : (kidsL kid n).getD i .nul = kid i := by
  rw [List.getD_eq_getElem?_getD, kidsL, List.getElem?_map, List.getElem?_range hi]; rfl
set_option maxRecDepth 100000 in
theorem same_kids {t u : Tr} (ht : Ok t) (hu : Ok u) (hk : t.k = u.k) (h2 : t.k ≠ 2) (h5 : t.k ≠ 5) (h : sameL (kidsL t.kid t.n) (kidsL u.kid u.n)) : sameT t u = true := by
  obtain ⟨h1, h3⟩ := sameL_get h
  rw [kidsL_len, kidsL_len] at h1
  rw [kidsL_len] at h3
  refine same_of (like_of ht hu hk (fun q => absurd q h2) (fun q => absurd q h5) h1) fun i hi => ?_
  have := h3 i hi
  rwa [kidsL_getD hi, kidsL_getD (by omega)] at this
/-- A part of a Cat, an atom of a Rep. -/
def fac (t : Tr) : List UInt8 := encT (txt t) (enclB t.k 3)
def atom (t : Tr) : List UInt8 := encT (txt t) (enclB t.k 5)
def facL (L : List Tr) : List UInt8 := L.flatMap fac
def sepL (L : List Tr) : List UInt8 := L.flatMap fun t => 124 :: txt t
set_option maxRecDepth 100000 in
theorem catTo_congr {f g : Nat → List UInt8} : ∀ n, (∀ i, i < n → f i = g i) → catTo f n = catTo g n
  | 0, _ => rfl
  | n + 1, h => by rw [catTo, catTo, catTo_congr n fun i hi => h i (by omega), h n (by omega)]
set_option maxRecDepth 100000 in
theorem catTo_fac (kid : Nat → Tr) : ∀ n, catTo (pieceT 3 kid) n = facL (kidsL kid n)
  | 0 => rfl
  | n + 1 => by
    rw [catTo, catTo_fac kid n, kidsL_succ]
    simp [facL, pieceT, fac]
set_option maxRecDepth 100000 in
theorem catTo_alt (kid : Nat → Tr) : ∀ n, catTo (pieceT 4 kid) (n + 1) = txt (kid 0) ++ sepL (kidsL (fun i => kid (i + 1)) n)
  | 0 => by simp [catTo, pieceT, encT, enclB, kidsL, sepL]
  | n + 1 => by
    rw [catTo, catTo_alt kid n, kidsL_succ]
    simp [sepL, pieceT, encT, enclB]
set_option maxRecDepth 100000 in
theorem txt_3 {t : Tr} (h : t.k = 3) : txt t = facL (kidsL t.kid t.n) := by
  cases t with
  | nul => simp [Tr.k] at h
  | node k s lo hi a n cap kid =>
    obtain rfl : k = 3 := h
    rw [txt_many (by omega) (by omega), catTo_fac]; simp [Tr.kid, Tr.n]
set_option maxRecDepth 100000 in
theorem txt_4 {t : Tr} (h : t.k = 4) (hn : 1 ≤ t.n) : txt t = txt (t.kid 0) ++ sepL (kidsL (fun i => t.kid (i + 1)) (t.n - 1)) := by
  cases t with
  | nul => simp [Tr.k] at h
  | node k s lo hi a n cap kid =>
    obtain rfl : k = 4 := h
    obtain ⟨m, rfl⟩ : ∃ m, n = m + 1 := ⟨n - 1, by simp [Tr.n] at hn; omega⟩
    rw [txt_many (by omega) (by omega), catTo_alt]; simp [Tr.kid, Tr.n]
set_option maxRecDepth 100000 in
theorem txt_5 {t : Tr} (h : t.k = 5) (hn : t.n = 1) : txt t = atom (t.kid 0) ++ countsT t.lo t.hi := by
  cases t with
  | nul => simp [Tr.k] at h
  | node k s lo hi a n cap kid =>
    obtain rfl : k = 5 := h
    obtain rfl : n = 1 := hn
    rw [txt_many (by omega) (by omega)]
    simp [catTo, pieceT, atom, Tr.kid, Tr.lo, Tr.hi]
set_option maxRecDepth 100000 in
theorem txt_1 {t : Tr} (h : t.k = 1) : txt t = [40, 41] := by
  cases t with
  | nul => simp [Tr.k] at h
  | node k s lo hi a n cap kid => obtain rfl : k = 1 := h; rw [txt, if_pos rfl]
set_option maxRecDepth 100000 in
theorem txt_2 {t : Tr} (h : t.k = 2) : txt t = setT t.s := by
  cases t with
  | nul => simp [Tr.k] at h
  | node k s lo hi a n cap kid => obtain rfl : k = 2 := h; rw [txt, if_neg (by omega), if_pos rfl]; rfl
set_option maxRecDepth 100000 in
theorem fac_4 {t : Tr} (h : t.k = 4) : fac t = 40 :: (txt t ++ [41]) := by simp [fac, enclB, h, encT]
set_option maxRecDepth 100000 in
theorem fac_ne {t : Tr} (h : t.k ≠ 4) : fac t = txt t := by simp [fac, enclB, h, encT]
set_option maxRecDepth 100000 in
theorem atom_le {t : Tr} (h : t.k = 1 ∨ t.k = 2) : atom t = txt t := by rcases h with h | h <;> simp [atom, enclB, h, encT]
set_option maxRecDepth 100000 in
theorem atom_ge {t : Tr} (h : t.k = 3 ∨ t.k = 4 ∨ t.k = 5) : atom t = 40 :: (txt t ++ [41]) := by rcases h with h | h | h <;> simp [atom, enclB, h, encT]
/-- How a pattern's text begins. -/
def Good (l : List UInt8) : Prop := ∃ c m, l = c :: m ∧ c ≠ 41 ∧ c ≠ 123 ∧ c ≠ 124
set_option maxRecDepth 100000 in
theorem Good.append {l : List UInt8} (h : Good l) (m : List UInt8) : Good (l ++ m) := by
  obtain ⟨c, m', rfl, h1, h2, h3⟩ := h
  exact ⟨c, m' ++ m, rfl, h1, h2, h3⟩
set_option maxRecDepth 100000 in
theorem good_40 (m : List UInt8) : Good (40 :: m) := ⟨40, m, rfl, by decide, by decide, by decide⟩
set_option maxRecDepth 100000 in
theorem txt_good : ∀ {t : Tr}, Ok t → Good (txt t) := by
  intro t
  induction t with
  | nul => intro h; rcases h.cases with q | q | q | q <;> simp [Tr.k] at q
  | node k s lo hi a n cap kid ih =>
    intro h
    have hk := fun i (hi' : i < n) => ih i (h.kid (i := i) hi')
    rcases h.cases with ⟨q, _⟩ | ⟨q, _⟩ | ⟨q | q, hn⟩ | ⟨q, hn⟩
    · rw [txt_1 q]; exact good_40 _
    · rw [txt_2 q]; obtain ⟨c, m, hc, _, g1, g2, g3⟩ := setT_head s; exact ⟨c, m, hc, g1, g2, g3⟩
    · rw [txt_3 q]
      change 2 ≤ n at hn
      obtain ⟨m, rfl⟩ : ∃ m, n = m + 1 := ⟨n - 1, by omega⟩
      show Good (facL (kidsL kid (m + 1)))
      have : kidsL kid (m + 1) = kid 0 :: kidsL (fun i => kid (i + 1)) m := by
        simp [kidsL, List.range_succ_eq_map, Function.comp_def]
      rw [this]
      show Good (fac (kid 0) ++ _)
      apply Good.append
      by_cases h4 : (kid 0).k = 4
      · rw [fac_4 h4]; exact good_40 _
      · rw [fac_ne h4]; exact hk 0 (by omega)
    · rw [txt_4 q (by omega)]
      change 2 ≤ n at hn
      exact (hk 0 (by omega)).append _
    · rw [txt_5 q hn]
      change n = 1 at hn
      apply Good.append
      show Good (atom (kid 0))
      have h0 : Ok (kid 0) := h.kid (i := 0) (by show 0 < n; omega)
      rcases h0.cases with ⟨p, _⟩ | ⟨p, _⟩ | ⟨p, _⟩ | ⟨p, _⟩
      · rw [atom_le (Or.inl p)]; exact hk 0 (by omega)
      · rw [atom_le (Or.inr p)]; exact hk 0 (by omega)
      · rw [atom_ge (by rcases p with p | p; exact Or.inl p; exact Or.inr (Or.inl p))]; exact good_40 _
      · rw [atom_ge (Or.inr (Or.inr p))]; exact good_40 _
set_option maxRecDepth 100000 in
theorem fac_good {t : Tr} (h : Ok t) : Good (fac t) := by
  by_cases h4 : t.k = 4
  · rw [fac_4 h4]; exact good_40 _
  · rw [fac_ne h4]; exact txt_good h
end Go.Proofs.YtnfchlkdppblfaaDoor
