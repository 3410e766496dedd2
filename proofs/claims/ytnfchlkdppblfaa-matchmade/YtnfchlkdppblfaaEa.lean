/- What patterns match, as relations between the places of a text; what is come to from places (plain mathematics). -/
import Derived.Test.YtnfchlkdppblfaaY
namespace Go.Proofs.Ytnfchlkdppblfaa
open Go.RowKit
/-- One behind the other, so many. -/
def chain (r : Nat → Nat → Nat → Prop) : Nat → Nat → Nat → Prop
  | 0 => fun i j => i = j
  | q + 1 => fun i j => ∃ x, chain r q i x ∧ r q x j
/-- So many times. -/
def pw (r : Nat → Nat → Prop) : Nat → Nat → Nat → Prop
  | 0 => fun i j => i = j
  | q + 1 => fun i j => ∃ x, pw r q i x ∧ r x j
/-- Once or more. -/
def plus (r : Nat → Nat → Prop) (i j : Nat) : Prop := ∃ q, pw r (q + 1) i j
/-- At most once. -/
def opt (r : Nat → Nat → Prop) (i j : Nat) : Prop := r i j ∨ i = j
/-- What is come to. -/
def im (r : Nat → Nat → Prop) (S : Nat → Prop) (j : Nat) : Prop := ∃ i, S i ∧ r i j
/-- Either. -/
def un (S T : Nat → Prop) (j : Nat) : Prop := S j ∨ T j
/-- The one without the other. -/
def df (S T : Nat → Prop) (j : Nat) : Prop := S j ∧ ¬ T j
def no0 (_ : Nat) : Prop := False
def bytR (c : Nat → Int) (L : Nat) (f : Nat → Int) (i j : Nat) : Prop := i < L ∧ hasI f (c i) = true ∧ j = i + 1
/-- From so many times to so many. -/
def tms (r : Nat → Nat → Prop) (lo hi : Int) (i j : Nat) : Prop := ∃ q : Nat, lo ≤ (q : Int) ∧ (hi = -1 ∨ (q : Int) ≤ hi) ∧ pw r q i j
/-- What a pattern matches, from a place to a place: layer 3's table. -/
def mt (c : Nat → Int) (L : Nat) : Tr → Nat → Nat → Prop
  | .node k s lo hi _ n _ kid => fun i j =>
    if k = 1 then i = j else if k = 2 then bytR c L s i j else if k = 3 then chain (fun q => mt c L (kid q)) n i j
    else if k = 4 then ∃ q, q < n ∧ mt c L (kid q) i j else tms (mt c L (kid 0)) lo hi i j
  | .nul => fun _ _ => False
theorem ext1 {S T : Nat → Prop} (h : ∀ i, S i ↔ T i) : S = T := funext fun i => propext (h i)
theorem ext2 {r s : Nat → Nat → Prop} (h : ∀ i j, r i j ↔ s i j) : r = s := funext fun i => funext fun j => propext (h i j)
theorem im_un (r : Nat → Nat → Prop) (S T : Nat → Prop) : im r (un S T) = un (im r S) (im r T) := ext1 fun j => by
  constructor
  · rintro ⟨i, h | h, hr⟩
    · exact Or.inl ⟨i, h, hr⟩
    · exact Or.inr ⟨i, h, hr⟩
  · rintro (⟨i, h, hr⟩ | ⟨i, h, hr⟩)
    · exact ⟨i, Or.inl h, hr⟩
    · exact ⟨i, Or.inr h, hr⟩
theorem im_no (r : Nat → Nat → Prop) : im r no0 = no0 := ext1 fun j => ⟨fun ⟨_, h, _⟩ => h, fun h => h.elim⟩
theorem un_no (S : Nat → Prop) : un S no0 = S := ext1 fun _ => ⟨fun h => h.elim id False.elim, Or.inl⟩
theorem no_un (S : Nat → Prop) : un no0 S = S := ext1 fun _ => ⟨fun h => h.elim False.elim id, Or.inr⟩
theorem df_no (S : Nat → Prop) : df S no0 = S := ext1 fun _ => ⟨fun h => h.1, fun h => ⟨h, id⟩⟩
theorem un_df (S T : Nat → Prop) : un S (df T S) = un S T := ext1 fun j => by
  constructor
  · rintro (h | h)
    · exact Or.inl h
    · exact Or.inr h.1
  · rintro (h | h)
    · exact Or.inl h
    · by_cases q : S j
      · exact Or.inl q
      · exact Or.inr ⟨h, q⟩
theorem im_mono {r : Nat → Nat → Prop} {S T : Nat → Prop} (h : ∀ i, S i → T i) : ∀ j, im r S j → im r T j := fun _ ⟨i, hi, hr⟩ => ⟨i, h i hi, hr⟩
theorem un_im_df (r : Nat → Nat → Prop) (A F : Nat → Prop) : un (im r A) (df (im r (un A F)) (im r A)) = im r (un A F) := by
  rw [un_df, im_un]
  exact ext1 fun j => ⟨fun h => h.elim Or.inl id, Or.inr⟩
theorem im_im (r s : Nat → Nat → Prop) (S : Nat → Prop) : im s (im r S) = im (fun i j => ∃ x, r i x ∧ s x j) S := ext1 fun j => by
  constructor
  · rintro ⟨x, ⟨i, hi, hr⟩, hs⟩; exact ⟨i, hi, x, hr, hs⟩
  · rintro ⟨i, hi, x, hr, hs⟩; exact ⟨x, ⟨i, hi, hr⟩, hs⟩
theorem im_chain_zero (r : Nat → Nat → Nat → Prop) (S : Nat → Prop) : im (chain r 0) S = S := ext1 fun j => ⟨fun ⟨i, hi, e⟩ => by cases e; exact hi, fun h => ⟨j, h, rfl⟩⟩
theorem im_chain_succ (r : Nat → Nat → Nat → Prop) (q : Nat) (S : Nat → Prop) : im (chain r (q + 1)) S = im (r q) (im (chain r q) S) := (im_im _ _ _).symm
theorem im_id (S : Nat → Prop) : im (fun i j => i = j) S = S := ext1 fun j => ⟨fun ⟨i, hi, e⟩ => by cases e; exact hi, fun h => ⟨j, h, rfl⟩⟩
theorem pw_one (r : Nat → Nat → Prop) (i j : Nat) : pw r 1 i j ↔ r i j := ⟨fun ⟨x, e, h⟩ => by cases e; exact h, fun h => ⟨i, rfl, h⟩⟩
theorem pw_add (r : Nat → Nat → Prop) (p : Nat) : ∀ q i j, pw r (p + q) i j ↔ ∃ x, pw r p i x ∧ pw r q x j
  | 0, i, j => ⟨fun h => ⟨j, h, rfl⟩, fun ⟨_, h, e⟩ => by cases e; exact h⟩
  | q + 1, i, j => by
    constructor
    · rintro ⟨x, h, hr⟩
      obtain ⟨y, h1, h2⟩ := (pw_add r p q i x).1 h
      exact ⟨y, h1, x, h2, hr⟩
    · rintro ⟨y, h1, x, h2, hr⟩
      exact ⟨x, (pw_add r p q i x).2 ⟨y, h1, h2⟩, hr⟩
/-- A step more behind. -/
theorem im_plus (r : Nat → Nat → Prop) (S : Nat → Prop) : im r (un S (im (plus r) S)) = im (plus r) S := ext1 fun j => by
  constructor
  · rintro ⟨x, h | ⟨i, hi, q, hq⟩, hr⟩
    · exact ⟨x, h, 0, (pw_one r x j).2 hr⟩
    · exact ⟨i, hi, q + 1, x, hq, hr⟩
  · rintro ⟨i, hi, q, x, hq, hr⟩
    cases q with
    | zero => cases hq; exact ⟨i, Or.inl hi, hr⟩
    | succ q => exact ⟨x, Or.inr ⟨i, hi, q, hq⟩, hr⟩
theorem plus_le {r : Nat → Nat → Prop} {S B : Nat → Prop} (h0 : ∀ i, B i → S i) (h1 : ∀ j, im r S j → S j) : ∀ j, im (plus r) B j → S j := by
  rintro j ⟨i, hi, q, hq⟩
  have H : ∀ q j, pw r q i j → S j := by
    intro q
    induction q with
    | zero => intro j e; cases e; exact h0 i hi
    | succ q ih => rintro j ⟨x, hx, hr⟩; exact h1 j ⟨x, ih x hx, hr⟩
  exact H _ j hq
/-- The loop of a Rep: what it has been asked from, S; what it goes on from, T. -/
structure Lp (r : Nat → Nat → Prop) (A F S T : Nat → Prop) : Prop where
  sub : ∀ i, un A (im (plus r) A) i → S i
  top : ∀ i, S i ∨ T i → un (un A F) (im (plus r) (un A F)) i
  all : ∀ i, un A F i → S i ∨ T i
  nxt : ∀ i, im r S i → S i ∨ T i
theorem Lp.start (r : Nat → Nat → Prop) (A F : Nat → Prop) : Lp r A F (un A (im (plus r) A)) F where
  sub _ h := h
  top i h := by
    rcases h with (h | ⟨a, ha, h⟩) | h
    · exact Or.inl (Or.inl h)
    · exact Or.inr ⟨a, Or.inl ha, h⟩
    · exact Or.inl (Or.inr h)
  all i h := h.elim (fun h => Or.inl (Or.inl h)) Or.inr
  nxt i h := by rw [im_plus] at h; exact Or.inl (Or.inr h)
theorem Lp.step {r : Nat → Nat → Prop} {A F S T : Nat → Prop} (h : Lp r A F S T) : Lp r A F (un S T) (df (im r (un S T)) (im r S)) where
  sub i hi := Or.inl (h.sub i hi)
  top i hi := by
    have hc : ∀ i, im r (un S T) i → un (un A F) (im (plus r) (un A F)) i := by
      rintro i ⟨x, hx, hr⟩
      have := h.top x hx
      have e := im_plus r (un A F)
      have : im r (un (un A F) (im (plus r) (un A F))) i := ⟨x, this, hr⟩
      rw [e] at this
      exact Or.inr this
    rcases hi with hi | hi
    · exact h.top i hi
    · exact hc i hi.1
  all i hi := Or.inl (h.all i hi)
  nxt i hi := by
    by_cases q : im r S i
    · exact Or.inl (h.nxt i q)
    · exact Or.inr ⟨hi, q⟩
theorem Lp.done {r : Nat → Nat → Prop} {A F S T : Nat → Prop} (h : Lp r A F S T) (h0 : ∀ i, ¬ T i) : S = un (un A F) (im (plus r) (un A F)) := ext1 fun i => by
  constructor
  · exact fun q => h.top i (Or.inl q)
  · have h1 : ∀ i, un A F i → S i := fun i q => (h.all i q).elim id fun q => (h0 i q).elim
    have h2 : ∀ i, im r S i → S i := fun i q => (h.nxt i q).elim id fun q => (h0 i q).elim
    rintro (q | q)
    · exact h1 i q
    · exact plus_le h1 h2 i q
theorem Lp.grow {r : Nat → Nat → Prop} {A F S T : Nat → Prop} (h : Lp r A F S T) : un (df (im r S) (im (plus r) A)) (df (im r (un S T)) (im r S)) = df (im r (un S T)) (im (plus r) A) := ext1 fun i => by
  have hs : ∀ i, im (plus r) A i → im r S i := fun i q => by
    rw [← im_plus] at q
    exact im_mono h.sub i q
  constructor
  · rintro (q | q)
    · exact ⟨im_mono (fun _ => Or.inl) i q.1, q.2⟩
    · exact ⟨q.1, fun h => q.2 (hs i h)⟩
  · rintro ⟨q, q'⟩
    by_cases p : im r S i
    · exact Or.inl ⟨p, q'⟩
    · exact Or.inr ⟨q, p⟩
theorem plus_plus (r : Nat → Nat → Prop) : plus (plus r) = plus r := ext2 fun i j => by
  constructor
  · rintro ⟨q, hq⟩
    have H : ∀ q j, pw (plus r) q i j → ∃ p, q ≤ p ∧ pw r p i j := by
      intro q
      induction q with
      | zero => intro j e; exact ⟨0, Nat.le_refl _, e⟩
      | succ q ih =>
        rintro j ⟨x, hx, p, hp⟩
        obtain ⟨p', h', hx'⟩ := ih x hx
        exact ⟨p' + (p + 1), by omega, (pw_add r p' (p + 1) i j).2 ⟨x, hx', hp⟩⟩
    obtain ⟨p, hp, h⟩ := H (q + 1) j hq
    obtain ⟨p', rfl⟩ : ∃ p', p = p' + 1 := ⟨p - 1, by omega⟩
    exact ⟨p', h⟩
  · rintro ⟨q, hq⟩
    exact ⟨0, (pw_one (plus r) i j).2 ⟨q, hq⟩⟩
theorem plus_opt (r : Nat → Nat → Prop) : plus (opt r) = opt (plus r) := ext2 fun i j => by
  constructor
  · rintro ⟨q, hq⟩
    have H : ∀ q j, pw (opt r) q i j → opt (plus r) i j := by
      intro q
      induction q with
      | zero => intro j e; exact Or.inr e
      | succ q ih =>
        rintro j ⟨x, hx, hr | e⟩
        · rcases ih x hx with ⟨p, hp⟩ | e
          · exact Or.inl ⟨p + 1, x, hp, hr⟩
          · cases e; exact Or.inl ⟨0, (pw_one r i j).2 hr⟩
        · subst e; exact ih _ hx
    exact H _ j hq
  · rintro (⟨q, hq⟩ | e)
    · refine ⟨q, ?_⟩
      have H : ∀ q j, pw r q i j → pw (opt r) q i j := by
        intro q
        induction q with
        | zero => intro j e; exact e
        | succ q ih => rintro j ⟨x, hx, hr⟩; exact ⟨x, ih x hx, Or.inl hr⟩
      exact H _ j hq
    · cases e; exact ⟨0, (pw_one (opt r) i i).2 (Or.inr rfl)⟩
theorem opt_opt (r : Nat → Nat → Prop) : opt (opt r) = opt r := ext2 fun i j => ⟨fun h => h.elim id Or.inr, Or.inl⟩
theorem chain_congr {r s : Nat → Nat → Nat → Prop} : ∀ {n : Nat}, (∀ q, q < n → r q = s q) → chain r n = chain s n
  | 0, _ => rfl
  | n + 1, h => by
    have h1 := chain_congr (n := n) fun q hq => h q (by omega)
    exact ext2 fun i j => by rw [chain, chain, h1, h n (by omega)]
/-- The copies of a Rep's kid: q of them, behind lo they may be left out. -/
def cpy (r : Nat → Nat → Prop) (lo : Int) (q : Nat) : Nat → Nat → Prop := if (q : Int) < lo then r else opt r
theorem chain_cpy (r : Nat → Nat → Prop) (lo : Int) (h0 : 0 ≤ lo) : ∀ n i j, chain (cpy r lo) n i j ↔ ∃ q : Nat, min lo (n : Int) ≤ (q : Int) ∧ q ≤ n ∧ pw r q i j
  | 0, i, j => by
    constructor
    · exact fun e => ⟨0, by omega, Nat.le_refl _, e⟩
    · rintro ⟨q, _, h, hq⟩
      obtain rfl : q = 0 := by omega
      exact hq
  | n + 1, i, j => by
    constructor
    · rintro ⟨x, hx, hr⟩
      obtain ⟨q, h1, h2, h3⟩ := (chain_cpy r lo h0 n i x).1 hx
      unfold cpy at hr
      split at hr
      · exact ⟨q + 1, by omega, by omega, x, h3, hr⟩
      · rcases hr with hr | e
        · exact ⟨q + 1, by omega, by omega, x, h3, hr⟩
        · cases e; exact ⟨q, by omega, by omega, h3⟩
    · rintro ⟨q, h1, h2, h3⟩
      by_cases hn : (n : Int) < lo
      · obtain rfl : q = n + 1 := by omega
        obtain ⟨x, h4, h5⟩ := h3
        exact ⟨x, (chain_cpy r lo h0 n i x).2 ⟨n, by omega, Nat.le_refl _, h4⟩, by unfold cpy; rw [if_pos hn]; exact h5⟩
      · by_cases hq : q ≤ n
        · exact ⟨j, (chain_cpy r lo h0 n i j).2 ⟨q, by omega, hq, h3⟩, by unfold cpy; rw [if_neg hn]; exact Or.inr rfl⟩
        · obtain rfl : q = n + 1 := by omega
          obtain ⟨x, h4, h5⟩ := h3
          exact ⟨x, (chain_cpy r lo h0 n i x).2 ⟨n, by omega, Nat.le_refl _, h4⟩, by unfold cpy; rw [if_neg hn]; exact Or.inl h5⟩
/-- A Rep's copies: the last one of those without end is repeated. -/
def cps (r : Nat → Nat → Prop) (lo hi : Int) (T q : Nat) : Nat → Nat → Prop :=
  if (q : Int) < lo then (if hi = -1 ∧ q + 1 = T then plus r else r) else opt (if hi = -1 ∧ q + 1 = T then plus r else r)
theorem chain_cps (r : Nat → Nat → Prop) {lo hi : Int} (h0 : 0 ≤ lo) (hh : hi = -1 ∨ (lo ≤ hi ∧ 1 ≤ hi)) {T : Nat} (hT : (T : Int) = max (max lo hi) 1) : chain (cps r lo hi T) T = tms r lo hi := ext2 fun i j => by
  rcases hh with rfl | ⟨h1, h2⟩
  · obtain ⟨n, rfl⟩ : ∃ n, T = n + 1 := ⟨T - 1, by omega⟩
    have e1 : chain (cps r lo (-1) (n + 1)) n = chain (cpy r lo) n := chain_congr fun q hq => by
      unfold cps cpy
      rw [if_neg (by omega : ¬ ((-1 : Int) = -1 ∧ q + 1 = n + 1))]
    have e2 : cps r lo (-1) (n + 1) n = if (n : Int) < lo then plus r else opt (plus r) := by unfold cps; rw [if_pos (⟨rfl, rfl⟩ : (-1 : Int) = -1 ∧ n + 1 = n + 1)]
    constructor
    · rintro ⟨x, hx, hr⟩
      rw [e1] at hx
      obtain ⟨q, h1, h2, h3⟩ := (chain_cpy r lo h0 n i x).1 hx
      rw [e2] at hr
      have H : plus r x j → tms r lo (-1) i j := fun ⟨p, hp⟩ => ⟨q + (p + 1), by omega, Or.inl rfl, (pw_add r q (p + 1) i j).2 ⟨x, h3, hp⟩⟩
      split at hr
      · exact H hr
      · rcases hr with hr | e
        · exact H hr
        · cases e; exact ⟨q, by omega, Or.inl rfl, h3⟩
    · rintro ⟨q, h1, _, h3⟩
      by_cases hn : (n : Int) < lo
      · have : q = n + (q - n - 1 + 1) := by omega
        rw [this] at h3
        obtain ⟨x, h4, h5⟩ := (pw_add r n _ i j).1 h3
        exact ⟨x, by rw [e1]; exact (chain_cpy r lo h0 n i x).2 ⟨n, by omega, Nat.le_refl _, h4⟩, by rw [e2, if_pos hn]; exact ⟨_, h5⟩⟩
      · obtain rfl : n = 0 := by omega
        refine ⟨i, by rw [e1]; rfl, ?_⟩
        rw [e2, if_neg hn]
        cases q with
        | zero => exact Or.inr h3
        | succ q => exact Or.inl ⟨q, h3⟩
  · have e1 : chain (cps r lo hi T) T = chain (cpy r lo) T := chain_congr fun q hq => by
      unfold cps cpy
      rw [if_neg (by omega : ¬ (hi = -1 ∧ q + 1 = T))]
    rw [e1, chain_cpy r lo h0 T i j]
    constructor
    · rintro ⟨q, h3, h4, h5⟩; exact ⟨q, by omega, Or.inr (by omega), h5⟩
    · rintro ⟨q, h3, h4, h5⟩; exact ⟨q, by omega, by omega, h5⟩
end Go.Proofs.Ytnfchlkdppblfaa
