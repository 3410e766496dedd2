/- What patterns match, as relations between the places of a text; what is come to from places (plain mathematics). -/
import Derived.Test.YtbahadgcmaabcaaY
import Derived.Test.YtbahadgcmaabcaaJa
namespace Go.Proofs.Ytbahadgcmaabcaa
open Go.RowKit
/-- One behind the other, so many. -/
def chain (r : Nat → Nat → Nat → Prop) : Nat → Nat → Nat → Prop
  | 0 => fun i j => i = j
  | q + 1 => fun i j => ∃ x, chain r q i x ∧ r q x j
/-- So many times. -/
def pw (r : Nat → Nat → Prop) : Nat → Nat → Nat → Prop
  | 0 => fun i j => i = j
  | q + 1 => fun i j => ∃ x, pw r q i x ∧ r x j
/-- Once or more. -/
def plus (r : Nat → Nat → Prop) (i j : Nat) : Prop := ∃ q, pw r (q + 1) i j
/-- At most once. -/
def opt (r : Nat → Nat → Prop) (i j : Nat) : Prop := r i j ∨ i = j
/-- What is come to. -/
def im (r : Nat → Nat → Prop) (S : Nat → Prop) (j : Nat) : Prop := ∃ i, S i ∧ r i j
/-- Either. -/
def un (S T : Nat → Prop) (j : Nat) : Prop := S j ∨ T j
/-- The one without the other. -/
def df (S T : Nat → Prop) (j : Nat) : Prop := S j ∧ ¬ T j
def no0 (_ : Nat) : Prop := False
def bytR (c : Nat → Int) (L : Nat) (f : Nat → Int) (i j : Nat) : Prop := i < L ∧ hasI f (c i) = true ∧ j = i + 1
/-- From so many times to so many. -/
def tms (r : Nat → Nat → Prop) (lo hi : Int) (i j : Nat) : Prop := ∃ q : Nat, lo ≤ (q : Int) ∧ (hi = -1 ∨ (q : Int) ≤ hi) ∧ pw r q i j
/-- What a pattern matches, from a place to a place: layer 3's table. -/
def mt (c : Nat → Int) (L : Nat) : Tr → Nat → Nat → Prop
  | .node k s lo hi _ n _ kid => fun i j =>
    if k = 1 then i = j else if k = 2 then bytR c L s i j else if k = 3 then chain (fun q => mt c L (kid q)) n i j
    else if k = 4 then ∃ q, q < n ∧ mt c L (kid q) i j else tms (mt c L (kid 0)) lo hi i j
  | .nul => fun _ _ => False
theorem ext1 {S T : Nat → Prop} (h : ∀ i, S i ↔ T i) : S = T := funext fun i => propext (h i)
theorem ext2 {r s : Nat → Nat → Prop} (h : ∀ i j, r i j ↔ s i j) : r = s := funext fun i => funext fun j => propext (h i j)
theorem im_un (r : Nat → Nat → Prop) (S T : Nat → Prop) : im r (un S T) = un (im r S) (im r T) := ext1 fun j => by
  constructor
  · rintro ⟨i, h | h, hr⟩
    · exact Or.inl ⟨i, h, hr⟩
    · exact Or.inr ⟨i, h, hr⟩
  · rintro (⟨i, h, hr⟩ | ⟨i, h, hr⟩)
    · exact ⟨i, Or.inl h, hr⟩
    · exact ⟨i, Or.inr h, hr⟩
theorem im_no (r : Nat → Nat → Prop) : im r no0 = no0 := ext1 fun _j => ⟨fun ⟨_, h, _⟩ => h, fun h => h.elim⟩
theorem un_no (S : Nat → Prop) : un S no0 = S := ext1 fun _ => ⟨fun h => h.elim id False.elim, Or.inl⟩
theorem no_un (S : Nat → Prop) : un no0 S = S := ext1 fun _ => ⟨fun h => h.elim False.elim id, Or.inr⟩
theorem df_no (S : Nat → Prop) : df S no0 = S := ext1 fun _ => ⟨fun h => h.1, fun h => ⟨h, id⟩⟩
theorem un_df (S T : Nat → Prop) : un S (df T S) = un S T := ext1 fun j => by
  constructor
  · rintro (h | h)
    · exact Or.inl h
    · exact Or.inr h.1
  · rintro (h | h)
    · exact Or.inl h
    · by_cases q : S j
      · exact Or.inl q
      · exact Or.inr ⟨h, q⟩
theorem im_mono {r : Nat → Nat → Prop} {S T : Nat → Prop} (h : ∀ i, S i → T i) : ∀ j, im r S j → im r T j := fun _ ⟨i, hi, hr⟩ => ⟨i, h i hi, hr⟩
theorem un_im_df (r : Nat → Nat → Prop) (A F : Nat → Prop) : un (im r A) (df (im r (un A F)) (im r A)) = im r (un A F) := by
  rw [un_df, im_un]
  exact ext1 fun j => ⟨fun h => h.elim Or.inl id, Or.inr⟩
theorem im_im (r s : Nat → Nat → Prop) (S : Nat → Prop) : im s (im r S) = im (fun i j => ∃ x, r i x ∧ s x j) S := ext1 fun j => by
  constructor
  · rintro ⟨x, ⟨i, hi, hr⟩, hs⟩; exact ⟨i, hi, x, hr, hs⟩
  · rintro ⟨i, hi, x, hr, hs⟩; exact ⟨x, ⟨i, hi, hr⟩, hs⟩
theorem im_chain_zero (r : Nat → Nat → Nat → Prop) (S : Nat → Prop) : im (chain r 0) S = S := ext1 fun j => ⟨fun ⟨i, hi, e⟩ => by cases e; exact hi, fun h => ⟨j, h, rfl⟩⟩
theorem im_chain_succ (r : Nat → Nat → Nat → Prop) (q : Nat) (S : Nat → Prop) : im (chain r (q + 1)) S = im (r q) (im (chain r q) S) := (im_im _ _ _).symm
theorem im_id (S : Nat → Prop) : im (fun i j => i = j) S = S := ext1 fun j => ⟨fun ⟨i, hi, e⟩ => by cases e; exact hi, fun h => ⟨j, h, rfl⟩⟩
theorem pw_one (r : Nat → Nat → Prop) (i j : Nat) : pw r 1 i j ↔ r i j := ⟨fun ⟨x, e, h⟩ => by cases e; exact h, fun h => ⟨i, rfl, h⟩⟩
theorem pw_add (r : Nat → Nat → Prop) (p : Nat) : ∀ q i j, pw r (p + q) i j ↔ ∃ x, pw r p i x ∧ pw r q x j
  | 0, i, j => ⟨fun h => ⟨j, h, rfl⟩, fun ⟨_, h, e⟩ => by cases e; exact h⟩
  | q + 1, i, j => by
    constructor
    · rintro ⟨x, h, hr⟩
      obtain ⟨y, h1, h2⟩ := (pw_add r p q i x).1 h
      exact ⟨y, h1, x, h2, hr⟩
    · rintro ⟨y, h1, x, h2, hr⟩
      exact ⟨x, (pw_add r p q i x).2 ⟨y, h1, h2⟩, hr⟩
/-- A step more behind. -/
theorem im_plus (r : Nat → Nat → Prop) (S : Nat → Prop) : im r (un S (im (plus r) S)) = im (plus r) S := ext1 fun j => by
  constructor
  · rintro ⟨x, h | ⟨i, hi, q, hq⟩, hr⟩
    · exact ⟨x, h, 0, (pw_one r x j).2 hr⟩
    · exact ⟨i, hi, q + 1, x, hq, hr⟩
  · rintro ⟨i, hi, q, x, hq, hr⟩
    cases q with
    | zero => cases hq; exact ⟨i, Or.inl hi, hr⟩
    | succ q => exact ⟨x, Or.inr ⟨i, hi, q, hq⟩, hr⟩
theorem plus_le {r : Nat → Nat → Prop} {S B : Nat → Prop} (h0 : ∀ i, B i → S i) (h1 : ∀ j, im r S j → S j) : ∀ j, im (plus r) B j → S j := by
  rintro j ⟨i, hi, q, hq⟩
  have H : ∀ q j, pw r q i j → S j := by
    intro q
    induction q with
    | zero => intro j e; cases e; exact h0 i hi
    | succ q ih => rintro j ⟨x, hx, hr⟩; exact h1 j ⟨x, ih x hx, hr⟩
  exact H _ j hq
/-- The loop of a Rep: what it has been asked from, S; what it goes on from, T. -/
structure Lp (r : Nat → Nat → Prop) (A F S T : Nat → Prop) : Prop where
  sub : ∀ i, un A (im (plus r) A) i → S i
  top : ∀ i, S i ∨ T i → un (un A F) (im (plus r) (un A F)) i
  all : ∀ i, un A F i → S i ∨ T i
  nxt : ∀ i, im r S i → S i ∨ T i
theorem Lp.start (r : Nat → Nat → Prop) (A F : Nat → Prop) : Lp r A F (un A (im (plus r) A)) F where
  sub _ h := h
  top i h := by
    rcases h with (h | ⟨a, ha, h⟩) | h
    · exact Or.inl (Or.inl h)
    · exact Or.inr ⟨a, Or.inl ha, h⟩
    · exact Or.inl (Or.inr h)
  all i h := h.elim (fun h => Or.inl (Or.inl h)) Or.inr
  nxt i h := by rw [im_plus] at h; exact Or.inl (Or.inr h)
theorem Lp.step {r : Nat → Nat → Prop} {A F S T : Nat → Prop} (h : Lp r A F S T) : Lp r A F (un S T) (df (im r (un S T)) (im r S)) where
  sub i hi := Or.inl (h.sub i hi)
  top i hi := by
    have hc : ∀ i, im r (un S T) i → un (un A F) (im (plus r) (un A F)) i := by
      rintro i ⟨x, hx, hr⟩
      have := h.top x hx
      have e := im_plus r (un A F)
      have : im r (un (un A F) (im (plus r) (un A F))) i := ⟨x, this, hr⟩
      rw [e] at this
      exact Or.inr this
    rcases hi with hi | hi
    · exact h.top i hi
    · exact hc i hi.1
  all i hi := Or.inl (h.all i hi)
  nxt i hi := by
    by_cases q : im r S i
    · exact Or.inl (h.nxt i q)
    · exact Or.inr ⟨hi, q⟩
theorem Lp.done {r : Nat → Nat → Prop} {A F S T : Nat → Prop} (h : Lp r A F S T) (h0 : ∀ i, ¬ T i) : S = un (un A F) (im (plus r) (un A F)) := ext1 fun i => by
  constructor
  · exact fun q => h.top i (Or.inl q)
  · have h1 : ∀ i, un A F i → S i := fun i q => (h.all i q).elim id fun q => (h0 i q).elim
    have h2 : ∀ i, im r S i → S i := fun i q => (h.nxt i q).elim id fun q => (h0 i q).elim
    rintro (q | q)
    · exact h1 i q
    · exact plus_le h1 h2 i q
theorem Lp.grow {r : Nat → Nat → Prop} {A F S T : Nat → Prop} (h : Lp r A F S T) : un (df (im r S) (im (plus r) A)) (df (im r (un S T)) (im r S)) = df (im r (un S T)) (im (plus r) A) := ext1 fun i => by
  have hs : ∀ i, im (plus r) A i → im r S i := fun i q => by
    rw [← im_plus] at q
    exact im_mono h.sub i q
  constructor
  · rintro (q | q)
    · exact ⟨im_mono (fun _ => Or.inl) i q.1, q.2⟩
    · exact ⟨q.1, fun h => q.2 (hs i h)⟩
  · rintro ⟨q, q'⟩
    by_cases p : im r S i
    · exact Or.inl ⟨p, q'⟩
    · exact Or.inr ⟨q, p⟩
theorem plus_plus (r : Nat → Nat → Prop) : plus (plus r) = plus r := ext2 fun i j => by
  constructor
  · rintro ⟨q, hq⟩
    have H : ∀ q j, pw (plus r) q i j → ∃ p, q ≤ p ∧ pw r p i j := by
      intro q
      induction q with
      | zero => intro j e; exact ⟨0, Nat.le_refl _, e⟩
      | succ q ih =>
        rintro j ⟨x, hx, p, hp⟩
        obtain ⟨p', h', hx'⟩ := ih x hx
        exact ⟨p' + (p + 1), by omega, (pw_add r p' (p + 1) i j).2 ⟨x, hx', hp⟩⟩
    obtain ⟨p, hp, h⟩ := H (q + 1) j hq
    obtain ⟨p', rfl⟩ : ∃ p', p = p' + 1 := ⟨p - 1, by omega⟩
    exact ⟨p', h⟩
  · rintro ⟨q, hq⟩
    exact ⟨0, (pw_one (plus r) i j).2 ⟨q, hq⟩⟩
theorem plus_opt (r : Nat → Nat → Prop) : plus (opt r) = opt (plus r) := ext2 fun i j => by
  constructor
  · rintro ⟨q, hq⟩
    have H : ∀ q j, pw (opt r) q i j → opt (plus r) i j := by
      intro q
      induction q with
      | zero => intro j e; exact Or.inr e
      | succ q ih =>
        rintro j ⟨x, hx, hr | e⟩
        · rcases ih x hx with ⟨p, hp⟩ | e
          · exact Or.inl ⟨p + 1, x, hp, hr⟩
          · cases e; exact Or.inl ⟨0, (pw_one r i j).2 hr⟩
        · subst e; exact ih _ hx
    exact H _ j hq
  · rintro (⟨q, hq⟩ | e)
    · refine ⟨q, ?_⟩
      have H : ∀ q j, pw r q i j → pw (opt r) q i j := by
        intro q
        induction q with
        | zero => intro j e; exact e
        | succ q ih => rintro j ⟨x, hx, hr⟩; exact ⟨x, ih x hx, Or.inl hr⟩
      exact H _ j hq
    · cases e; exact ⟨0, (pw_one (opt r) i i).2 (Or.inr rfl)⟩
theorem opt_opt (r : Nat → Nat → Prop) : opt (opt r) = opt r := ext2 fun _i _j => ⟨fun h => h.elim id Or.inr, Or.inl⟩
theorem chain_congr {r s : Nat → Nat → Nat → Prop} : ∀ {n : Nat}, (∀ q, q < n → r q = s q) → chain r n = chain s n
  | 0, _ => rfl
  | n + 1, h => by
    have h1 := chain_congr (n := n) fun q hq => h q (by omega)
    exact ext2 fun i j => by rw [chain, chain, h1, h n (by omega)]
/-- The copies of a Rep's kid: q of them, behind lo they may be left out. -/
def cpy (r : Nat → Nat → Prop) (lo : Int) (q : Nat) : Nat → Nat → Prop := if (q : Int) < lo then r else opt r
theorem chain_cpy (r : Nat → Nat → Prop) (lo : Int) (h0 : 0 ≤ lo) : ∀ n i j, chain (cpy r lo) n i j ↔ ∃ q : Nat, min lo (n : Int) ≤ (q : Int) ∧ q ≤ n ∧ pw r q i j
  | 0, i, j => by
    constructor
    · exact fun e => ⟨0, by omega, Nat.le_refl _, e⟩
    · rintro ⟨q, _, h, hq⟩
      obtain rfl : q = 0 := by omega
      exact hq
  | n + 1, i, j => by
    constructor
    · rintro ⟨x, hx, hr⟩
      obtain ⟨q, h1, h2, h3⟩ := (chain_cpy r lo h0 n i x).1 hx
      unfold cpy at hr
      split at hr
      · exact ⟨q + 1, by omega, by omega, x, h3, hr⟩
      · rcases hr with hr | e
        · exact ⟨q + 1, by omega, by omega, x, h3, hr⟩
        · cases e; exact ⟨q, by omega, by omega, h3⟩
    · rintro ⟨q, h1, h2, h3⟩
      by_cases hn : (n : Int) < lo
      · obtain rfl : q = n + 1 := by omega
        obtain ⟨x, h4, h5⟩ := h3
        exact ⟨x, (chain_cpy r lo h0 n i x).2 ⟨n, by omega, Nat.le_refl _, h4⟩, by unfold cpy; rw [if_pos hn]; exact h5⟩
      · by_cases hq : q ≤ n
        · exact ⟨j, (chain_cpy r lo h0 n i j).2 ⟨q, by omega, hq, h3⟩, by unfold cpy; rw [if_neg hn]; exact Or.inr rfl⟩
        · obtain rfl : q = n + 1 := by omega
          obtain ⟨x, h4, h5⟩ := h3
          exact ⟨x, (chain_cpy r lo h0 n i x).2 ⟨n, by omega, Nat.le_refl _, h4⟩, by unfold cpy; rw [if_neg hn]; exact Or.inl h5⟩
/-- A Rep's copies: the last one of those without end is repeated. -/
def cps (r : Nat → Nat → Prop) (lo hi : Int) (T q : Nat) : Nat → Nat → Prop :=
  if (q : Int) < lo then (if hi = -1 ∧ q + 1 = T then plus r else r) else opt (if hi = -1 ∧ q + 1 = T then plus r else r)
theorem chain_cps (r : Nat → Nat → Prop) {lo hi : Int} (h0 : 0 ≤ lo) (hh : hi = -1 ∨ (lo ≤ hi ∧ 1 ≤ hi)) {T : Nat} (hT : (T : Int) = max (max lo hi) 1) : chain (cps r lo hi T) T = tms r lo hi := ext2 fun i j => by
  rcases hh with rfl | ⟨h1, h2⟩
  · obtain ⟨n, rfl⟩ : ∃ n, T = n + 1 := ⟨T - 1, by omega⟩
    have e1 : chain (cps r lo (-1) (n + 1)) n = chain (cpy r lo) n := chain_congr fun q hq => by
      unfold cps cpy
      rw [if_neg (by omega : ¬ ((-1 : Int) = -1 ∧ q + 1 = n + 1))]
    have e2 : cps r lo (-1) (n + 1) n = if (n : Int) < lo then plus r else opt (plus r) := by unfold cps; rw [if_pos (⟨rfl, rfl⟩ : (-1 : Int) = -1 ∧ n + 1 = n + 1)]
    constructor
    · rintro ⟨x, hx, hr⟩
      rw [e1] at hx
      obtain ⟨q, h1, h2, h3⟩ := (chain_cpy r lo h0 n i x).1 hx
      rw [e2] at hr
      have H : plus r x j → tms r lo (-1) i j := fun ⟨p, hp⟩ => ⟨q + (p + 1), by omega, Or.inl rfl, (pw_add r q (p + 1) i j).2 ⟨x, h3, hp⟩⟩
      split at hr
      · exact H hr
      · rcases hr with hr | e
        · exact H hr
        · cases e; exact ⟨q, by omega, Or.inl rfl, h3⟩
    · rintro ⟨q, h1, _, h3⟩
      by_cases hn : (n : Int) < lo
      · have : q = n + (q - n - 1 + 1) := by omega
        rw [this] at h3
        obtain ⟨x, h4, h5⟩ := (pw_add r n _ i j).1 h3
        exact ⟨x, by rw [e1]; exact (chain_cpy r lo h0 n i x).2 ⟨n, by omega, Nat.le_refl _, h4⟩, by rw [e2, if_pos hn]; exact ⟨_, h5⟩⟩
      · obtain rfl : n = 0 := by omega
        refine ⟨i, by rw [e1]; rfl, ?_⟩
        rw [e2, if_neg hn]
        cases q with
        | zero => exact Or.inr h3
        | succ q => exact Or.inl ⟨q, h3⟩
  · have e1 : chain (cps r lo hi T) T = chain (cpy r lo) T := chain_congr fun q hq => by
      unfold cps cpy
      rw [if_neg (by omega : ¬ (hi = -1 ∧ q + 1 = T))]
    rw [e1, chain_cpy r lo h0 T i j]
    constructor
    · rintro ⟨q, h3, h4, h5⟩; exact ⟨q, by omega, Or.inr (by omega), h5⟩
    · rintro ⟨q, h3, h4, h5⟩; exact ⟨q, by omega, by omega, h5⟩
end Go.Proofs.Ytbahadgcmaabcaa
/- What places lead to: a pattern matches just what its places read, one behind the other (plain mathematics). -/
namespace Go.Proofs.Ytbahadgcmaabcaa
open Go.RowKit
/-- Read from i on up to k by places, one behind the other; q was the last. -/
inductive RnP (c : Nat → Int) (L : Nat) (P : Pl) (i : Nat) : Nat → Nat → Prop
  | first {q : Nat} (h : P.fi q = true) (hi : i < L) (hs : hasI (P.set q) (c i) = true) : RnP c L P i q (i + 1)
  | next {q r k : Nat} (h : RnP c L P i q k) (hf : P.fo q r = true) (hk : k < L) (hs : hasI (P.set r) (c k) = true) : RnP c L P i r (k + 1)
/-- What places take. -/
def ac (c : Nat → Int) (L : Nat) (P : Pl) (i j : Nat) : Prop := (i = j ∧ P.nu = true) ∨ ∃ q, RnP c L P i q j ∧ P.la q = true
theorem RnP.lt {c : Nat → Int} {L : Nat} {P : Pl} {i q k : Nat} (hP : P.Ok) (h : RnP c L P i q k) : q < P.n := by
  cases h with
  | first h _ _ => exact Decidable.byContradiction fun hn => by rw [hP.fi q (by omega)] at h; cases h
  | next h hf _ _ => exact Decidable.byContradiction fun hn => by rw [hP.fo _ q (Or.inr (by omega))] at hf; cases hf
theorem RnP.congr {c : Nat → Int} {L : Nat} {P Q : Pl} (h1 : P.set = Q.set) (h2 : P.fi = Q.fi) (h3 : P.fo = Q.fo) {i q k : Nat} (h : RnP c L P i q k) : RnP c L Q i q k := by
  induction h with
  | first h hi hs => exact .first (h2 ▸ h) hi (h1 ▸ hs)
  | next _ hf hk hs ih => exact .next ih (h3 ▸ hf) hk (h1 ▸ hs)
theorem rn_nil {c : Nat → Int} {L : Nat} {b : Bool} {i q k : Nat} (h : RnP c L (Pl.nil b) i q k) : False := by
  cases h with
  | first h _ _ => cases h
  | next _ hf _ _ => cases hf
theorem ac_nil (c : Nat → Int) (L : Nat) (b : Bool) (i j : Nat) : ac c L (Pl.nil b) i j ↔ i = j ∧ b = true :=
  ⟨fun h => h.elim id fun ⟨_, h, _⟩ => (rn_nil h).elim, Or.inl⟩
theorem ac_one (c : Nat → Int) (L : Nat) (s : Nat → Int) (i j : Nat) : ac c L (Pl.one s) i j ↔ bytR c L s i j := by
  constructor
  · rintro (⟨_, h⟩ | ⟨q, h, _⟩)
    · cases h
    · cases h with
      | first h hi hs =>
        have hq : q = 0 := of_decide_eq_true h
        subst hq
        exact ⟨hi, hs, rfl⟩
      | next _ hf _ _ => cases hf
  · rintro ⟨hi, hs, rfl⟩
    exact Or.inr ⟨0, .first rfl hi hs, rfl⟩
/-- What is read by places one behind the other. -/
theorem rn_cat {c : Nat → Int} {L : Nat} {A B : Pl} {i q k : Nat} (h : RnP c L (A.cat B) i q k) : (q < A.n ∧ RnP c L A i q k) ∨ ∃ r, q = A.n + r ∧ ∃ m, ac c L A i m ∧ RnP c L B m r k := by
  induction h with
  | @first q h hi hs =>
    simp only [Pl.cat] at h hs
    by_cases hq : q < A.n
    · rw [if_pos hq] at h hs
      exact Or.inl ⟨hq, .first h hi hs⟩
    · rw [if_neg hq] at h hs
      simp only [Bool.and_eq_true] at h
      exact Or.inr ⟨q - A.n, by omega, i, Or.inl ⟨rfl, h.1⟩, .first h.2 hi hs⟩
  | @next q r k _ hf hk hs ih =>
    simp only [Pl.cat] at hf hs
    rcases ih with ⟨hq, ih⟩ | ⟨q', rfl, m, hm, ih⟩
    · rw [if_pos hq] at hf
      by_cases hr : r < A.n
      · rw [if_pos hr] at hf hs
        exact Or.inl ⟨hr, .next ih hf hk hs⟩
      · rw [if_neg hr] at hf hs
        simp only [Bool.and_eq_true] at hf
        exact Or.inr ⟨r - A.n, by omega, k, Or.inr ⟨q, ih, hf.1⟩, .first hf.2 hk hs⟩
    · rw [if_neg (by omega), Nat.add_sub_cancel_left] at hf
      simp only [Bool.and_eq_true, decide_eq_true_eq] at hf
      rw [if_neg (by omega)] at hs
      exact Or.inr ⟨r - A.n, by omega, m, hm, .next ih hf.2 hk hs⟩
theorem RnP.catA {c : Nat → Int} {L : Nat} {A B : Pl} (hA : A.Ok) {i q k : Nat} (h : RnP c L A i q k) : RnP c L (A.cat B) i q k := by
  induction h with
  | @first q h hi hs =>
    have hq := RnP.lt hA (.first h hi hs)
    exact .first (by simp only [Pl.cat, if_pos hq]; exact h) hi (by simp only [Pl.cat, if_pos hq]; exact hs)
  | @next q r k h0 hf hk hs ih =>
    have hq := h0.lt hA
    have hr := RnP.lt hA (.next h0 hf hk hs)
    exact .next ih (by simp only [Pl.cat, if_pos hq, if_pos hr]; exact hf) hk (by simp only [Pl.cat, if_pos hr]; exact hs)
theorem RnP.catB {c : Nat → Int} {L : Nat} {A B : Pl} (hA : A.Ok) {i m r k : Nat} (hm : ac c L A i m) (h : RnP c L B m r k) : RnP c L (A.cat B) i (A.n + r) k := by
  induction h with
  | @first q h hi hs =>
    have hs' : hasI ((A.cat B).set (A.n + q)) (c m) = true := by simp only [Pl.cat, if_neg (show ¬ A.n + q < A.n by omega), Nat.add_sub_cancel_left]; exact hs
    rcases hm with ⟨rfl, hn⟩ | ⟨p, hp, hl⟩
    · exact .first (by simp only [Pl.cat, if_neg (show ¬ A.n + q < A.n by omega), Nat.add_sub_cancel_left, hn, h, Bool.and_self]) hi hs'
    · exact .next (hp.catA hA) (by simp only [Pl.cat, if_pos (hp.lt hA), if_neg (show ¬ A.n + q < A.n by omega), Nat.add_sub_cancel_left, hl, h, Bool.and_self]) hi hs'
  | @next q r k h0 hf hk hs ih =>
    exact .next ih (by simp only [Pl.cat, if_neg (show ¬ A.n + q < A.n by omega), Nat.add_sub_cancel_left, decide_eq_true (show A.n ≤ A.n + r by omega), Bool.true_and]; exact hf) hk (by simp only [Pl.cat, if_neg (show ¬ A.n + r < A.n by omega), Nat.add_sub_cancel_left]; exact hs)
theorem ac_cat {c : Nat → Int} {L : Nat} {A B : Pl} (hA : A.Ok) (i j : Nat) : ac c L (A.cat B) i j ↔ ∃ m, ac c L A i m ∧ ac c L B m j := by
  constructor
  · rintro (⟨rfl, h⟩ | ⟨q, h, hl⟩)
    · simp only [Pl.cat, Bool.and_eq_true] at h
      exact ⟨i, Or.inl ⟨rfl, h.1⟩, Or.inl ⟨rfl, h.2⟩⟩
    · simp only [Pl.cat] at hl
      rcases rn_cat h with ⟨hq, h⟩ | ⟨r, rfl, m, hm, h⟩
      · rw [if_pos hq] at hl
        simp only [Bool.and_eq_true] at hl
        exact ⟨j, Or.inr ⟨q, h, hl.2⟩, Or.inl ⟨rfl, hl.1⟩⟩
      · rw [if_neg (by omega), Nat.add_sub_cancel_left] at hl
        exact ⟨m, hm, Or.inr ⟨r, h, hl⟩⟩
  · rintro ⟨m, hm, ⟨rfl, hn⟩ | ⟨r, h, hl⟩⟩
    · rcases hm with ⟨rfl, ha⟩ | ⟨q, h, hl⟩
      · exact Or.inl ⟨rfl, by simp only [Pl.cat, ha, hn, Bool.and_self]⟩
      · exact Or.inr ⟨q, h.catA hA, by simp only [Pl.cat, if_pos (h.lt hA), hn, hl, Bool.and_self]⟩
    · exact Or.inr ⟨A.n + r, h.catB hA hm, by simp only [Pl.cat, if_neg (show ¬ A.n + r < A.n by omega), Nat.add_sub_cancel_left]; exact hl⟩
theorem rn_alt {c : Nat → Int} {L : Nat} {A B : Pl} {i q k : Nat} (h : RnP c L (A.alt B) i q k) : (q < A.n ∧ RnP c L A i q k) ∨ ∃ r, q = A.n + r ∧ RnP c L B i r k := by
  induction h with
  | @first q h hi hs =>
    simp only [Pl.alt] at h hs
    by_cases hq : q < A.n
    · rw [if_pos hq] at h hs
      exact Or.inl ⟨hq, .first h hi hs⟩
    · rw [if_neg hq] at h hs
      exact Or.inr ⟨q - A.n, by omega, .first h hi hs⟩
  | @next q r k _ hf hk hs ih =>
    simp only [Pl.alt] at hf hs
    rcases ih with ⟨hq, ih⟩ | ⟨q', rfl, ih⟩
    · rw [if_pos hq] at hf
      simp only [Bool.and_eq_true, decide_eq_true_eq] at hf
      rw [if_pos hf.1] at hs
      exact Or.inl ⟨hf.1, .next ih hf.2 hk hs⟩
    · rw [if_neg (by omega), Nat.add_sub_cancel_left] at hf
      simp only [Bool.and_eq_true, decide_eq_true_eq] at hf
      rw [if_neg (by omega)] at hs
      exact Or.inr ⟨r - A.n, by omega, .next ih hf.2 hk hs⟩
theorem RnP.altA {c : Nat → Int} {L : Nat} {A B : Pl} (hA : A.Ok) {i q k : Nat} (h : RnP c L A i q k) : RnP c L (A.alt B) i q k := by
  induction h with
  | @first q h hi hs =>
    have hq := RnP.lt hA (.first h hi hs)
    exact .first (by simp only [Pl.alt, if_pos hq]; exact h) hi (by simp only [Pl.alt, if_pos hq]; exact hs)
  | @next q r k h0 hf hk hs ih =>
    have hq := h0.lt hA
    have hr := RnP.lt hA (.next h0 hf hk hs)
    exact .next ih (by simp only [Pl.alt, if_pos hq, decide_eq_true hr, Bool.true_and]; exact hf) hk (by simp only [Pl.alt, if_pos hr]; exact hs)
theorem RnP.altB {c : Nat → Int} {L : Nat} {A B : Pl} {i r k : Nat} (h : RnP c L B i r k) : RnP c L (A.alt B) i (A.n + r) k := by
  induction h with
  | @first q h hi hs =>
    exact .first (by simp only [Pl.alt, if_neg (show ¬ A.n + q < A.n by omega), Nat.add_sub_cancel_left]; exact h) hi (by simp only [Pl.alt, if_neg (show ¬ A.n + q < A.n by omega), Nat.add_sub_cancel_left]; exact hs)
  | @next q r k h0 hf hk hs ih =>
    exact .next ih (by simp only [Pl.alt, if_neg (show ¬ A.n + q < A.n by omega), Nat.add_sub_cancel_left, decide_eq_true (show A.n ≤ A.n + r by omega), Bool.true_and]; exact hf) hk (by simp only [Pl.alt, if_neg (show ¬ A.n + r < A.n by omega), Nat.add_sub_cancel_left]; exact hs)
theorem ac_alt {c : Nat → Int} {L : Nat} {A B : Pl} (hA : A.Ok) (i j : Nat) : ac c L (A.alt B) i j ↔ ac c L A i j ∨ ac c L B i j := by
  constructor
  · rintro (⟨rfl, h⟩ | ⟨q, h, hl⟩)
    · simp only [Pl.alt, Bool.or_eq_true] at h
      exact h.elim (fun h => Or.inl (Or.inl ⟨rfl, h⟩)) fun h => Or.inr (Or.inl ⟨rfl, h⟩)
    · simp only [Pl.alt] at hl
      rcases rn_alt h with ⟨hq, h'⟩ | ⟨r, rfl, h'⟩
      · rw [if_pos hq] at hl
        exact Or.inl (Or.inr ⟨q, h', hl⟩)
      · rw [if_neg (by omega), Nat.add_sub_cancel_left] at hl
        exact Or.inr (Or.inr ⟨r, h', hl⟩)
  · rintro ((⟨rfl, h⟩ | ⟨q, h, hl⟩) | (⟨rfl, h⟩ | ⟨r, h, hl⟩))
    · exact Or.inl ⟨rfl, by simp only [Pl.alt, h, Bool.true_or]⟩
    · exact Or.inr ⟨q, h.altA hA, by simp only [Pl.alt, if_pos (h.lt hA)]; exact hl⟩
    · exact Or.inl ⟨rfl, by simp only [Pl.alt, h, Bool.or_true]⟩
    · exact Or.inr ⟨A.n + r, h.altB, by simp only [Pl.alt, if_neg (show ¬ A.n + r < A.n by omega), Nat.add_sub_cancel_left]; exact hl⟩
theorem rn_loop {c : Nat → Int} {L : Nat} {A : Pl} {i q k : Nat} (h : RnP c L A.loop i q k) : ∃ p m, pw (ac c L A) p i m ∧ RnP c L A m q k := by
  induction h with
  | first h hi hs => exact ⟨0, i, rfl, .first h hi hs⟩
  | @next q r k _ hf hk hs ih =>
    obtain ⟨p, m, hp, ih⟩ := ih
    simp only [Pl.loop, Bool.or_eq_true, Bool.and_eq_true] at hf
    rcases hf with hf | hf
    · exact ⟨p, m, hp, .next ih hf hk hs⟩
    · exact ⟨p + 1, k, ⟨m, hp, Or.inr ⟨q, ih, hf.1⟩⟩, .first hf.2 hk hs⟩
theorem RnP.loopB {c : Nat → Int} {L : Nat} {A : Pl} {i x p0 : Nat} (h0 : RnP c L A.loop i p0 x) (hl : A.la p0 = true) {q k : Nat} (h : RnP c L A x q k) : RnP c L A.loop i q k := by
  induction h with
  | first h hi hs => exact .next h0 (by simp only [Pl.loop, hl, h, Bool.and_self, Bool.or_true]) hi hs
  | next _ hf hk hs ih => exact .next ih (by simp only [Pl.loop, hf, Bool.true_or]) hk hs
theorem RnP.loopA {c : Nat → Int} {L : Nat} {A : Pl} {i q k : Nat} (h : RnP c L A i q k) : RnP c L A.loop i q k := by
  induction h with
  | first h hi hs => exact .first h hi hs
  | next _ hf hk hs ih => exact .next ih (by simp only [Pl.loop, hf, Bool.true_or]) hk hs
theorem loop_rn {c : Nat → Int} {L : Nat} {A : Pl} {i : Nat} : ∀ (p : Nat) {m q k : Nat}, pw (ac c L A) p i m → RnP c L A m q k → RnP c L A.loop i q k
  | 0, m, q, k, hp, h => by cases hp; exact h.loopA
  | p + 1, m, q, k, ⟨x, hx, hr⟩, h => by
    rcases hr with ⟨rfl, _⟩ | ⟨q0, h0, hl⟩
    · exact loop_rn p hx h
    · exact RnP.loopB (loop_rn p hx h0) hl h
theorem ac_loop {c : Nat → Int} {L : Nat} {A : Pl} (i j : Nat) : ac c L A.loop i j ↔ plus (ac c L A) i j := by
  constructor
  · rintro (⟨rfl, h⟩ | ⟨q, h, hl⟩)
    · exact ⟨0, (pw_one _ _ _).2 (Or.inl ⟨rfl, h⟩)⟩
    · obtain ⟨p, m, hp, h⟩ := rn_loop h
      exact ⟨p, m, hp, Or.inr ⟨q, h, hl⟩⟩
  · rintro ⟨p, hp⟩
    induction p with
    | zero =>
      rcases (pw_one _ _ _).1 hp with h | ⟨q, h, hl⟩
      · exact Or.inl h
      · exact Or.inr ⟨q, h.loopA, hl⟩
    | succ p ih =>
      obtain ⟨x, hx, ⟨rfl, _⟩ | ⟨q, h, hl⟩⟩ := hp
      · exact ih hx
      · exact Or.inr ⟨q, loop_rn _ hx h, hl⟩
theorem ac_orN {c : Nat → Int} {L : Nat} {A : Pl} {b : Bool} (i j : Nat) : ac c L (A.orN b) i j ↔ ac c L A i j ∨ (b = true ∧ i = j) := by
  constructor
  · rintro (⟨rfl, h⟩ | ⟨q, h, hl⟩)
    · simp only [Pl.orN, Bool.or_eq_true] at h
      exact h.elim (fun h => Or.inl (Or.inl ⟨rfl, h⟩)) fun h => Or.inr ⟨h, rfl⟩
    · exact Or.inl (Or.inr ⟨q, RnP.congr (P := A.orN b) (Q := A) rfl rfl rfl h, hl⟩)
  · rintro ((⟨rfl, h⟩ | ⟨q, h, hl⟩) | ⟨h, rfl⟩)
    · exact Or.inl ⟨rfl, by simp only [Pl.orN, h, Bool.true_or]⟩
    · exact Or.inr ⟨q, RnP.congr (P := A) (Q := A.orN b) rfl rfl rfl h, hl⟩
    · exact Or.inl ⟨rfl, by simp only [Pl.orN, h, Bool.or_true]⟩
theorem ac_catTo {c : Nat → Int} {L : Nat} {f : Nat → Pl} (hf : ∀ i, (f i).Ok) : ∀ (n i j : Nat), ac c L (Pl.catTo f n) i j ↔ chain (fun q => ac c L (f q)) n i j
  | 0, i, j => (ac_nil c L true i j).trans ⟨fun h => h.1, fun h => ⟨h, rfl⟩⟩
  | n + 1, i, j => (ac_cat (Pl.ok_catTo fun q _ => hf q) i j).trans ⟨fun ⟨m, h1, h2⟩ => ⟨m, (ac_catTo hf n i m).1 h1, h2⟩, fun ⟨m, h1, h2⟩ => ⟨m, (ac_catTo hf n i m).2 h1, h2⟩⟩
theorem ac_altTo {c : Nat → Int} {L : Nat} {f : Nat → Pl} (hf : ∀ i, (f i).Ok) : ∀ (n i j : Nat), ac c L (Pl.altTo f n) i j ↔ ∃ q, q < n ∧ ac c L (f q) i j
  | 0, i, j => (ac_nil c L false i j).trans ⟨fun h => (nomatch h.2), fun ⟨q, h, _⟩ => absurd h (Nat.not_lt_zero q)⟩
  | n + 1, i, j => (ac_alt (Pl.ok_altTo fun q _ => hf q) i j).trans (by
    constructor
    · rintro (h | h)
      · obtain ⟨q, hq, h⟩ := (ac_altTo hf n i j).1 h
        exact ⟨q, by omega, h⟩
      · exact ⟨n, by omega, h⟩
    · rintro ⟨q, hq, h⟩
      by_cases e : q = n
      · subst e; exact Or.inr h
      · exact Or.inl ((ac_altTo hf n i j).2 ⟨q, by omega, h⟩))
theorem chain_pw {r : Nat → Nat → Prop} : ∀ (n i j : Nat), chain (fun _ => r) n i j ↔ pw r n i j
  | 0, _, _ => Iff.rfl
  | n + 1, i, _j => ⟨fun ⟨x, h1, h2⟩ => ⟨x, (chain_pw n i x).1 h1, h2⟩, fun ⟨x, h1, h2⟩ => ⟨x, (chain_pw n i x).2 h1, h2⟩⟩
theorem ac_pows {c : Nat → Int} {L : Nat} {x : Pl} (hx : x.Ok) (n i j : Nat) : ac c L (x.pows n) i j ↔ pw (ac c L x) n i j := (ac_catTo (fun _ => hx) n i j).trans (chain_pw n i j)
theorem ac_opts {c : Nat → Int} {L : Nat} {x : Pl} (hx : x.Ok) : ∀ (n i j : Nat), ac c L (x.opts n) i j ↔ ∃ q, q ≤ n ∧ pw (ac c L x) q i j
  | 0, i, j => (ac_nil c L true i j).trans (by
    constructor
    · exact fun h => ⟨0, Nat.le_refl _, h.1⟩
    · rintro ⟨q, hq, h⟩
      obtain rfl : q = 0 := by omega
      exact ⟨h, rfl⟩)
  | n + 1, i, j => (ac_orN i j).trans (by
    rw [ac_cat hx]
    constructor
    · rintro (⟨m, h1, h2⟩ | ⟨_, h⟩)
      · obtain ⟨q, hq, h⟩ := (ac_opts hx n m j).1 h2
        exact ⟨1 + q, by omega, (pw_add _ 1 q i j).2 ⟨m, (pw_one _ _ _).2 h1, h⟩⟩
      · exact ⟨0, Nat.zero_le _, h⟩
    · rintro ⟨q, hq, h⟩
      cases q with
      | zero => exact Or.inr ⟨rfl, h⟩
      | succ q =>
        rw [Nat.add_comm] at h
        obtain ⟨m, h1, h2⟩ := (pw_add _ 1 q i j).1 h
        exact Or.inl ⟨m, (pw_one _ _ _).1 h1, (ac_opts hx n m j).2 ⟨q, by omega, h2⟩⟩)
theorem ac_rep {c : Nat → Int} {L : Nat} {x : Pl} (hx : x.Ok) {lo hi : Int} (h : countsB lo hi = true) (i j : Nat) : ac c L (x.rep lo hi) i j ↔ tms (ac c L x) lo hi i j := by
  simp only [countsB, Bool.and_eq_true, Bool.or_eq_true, decide_eq_true_eq] at h
  unfold Pl.rep
  by_cases hh : hi < 0
  · rw [if_pos hh, ac_cat (hx.pows _)]
    have he : hi = -1 := by omega
    constructor
    · rintro ⟨m, h1, h2⟩
      rw [ac_pows hx] at h1
      rw [ac_orN, ac_loop] at h2
      rcases h2 with ⟨p, hp⟩ | ⟨h2, rfl⟩
      · exact ⟨(lo - 1).toNat + (p + 1), by omega, Or.inl he, (pw_add _ _ _ i j).2 ⟨m, h1, hp⟩⟩
      · have h2 : lo = 0 := of_decide_eq_true h2
        exact ⟨(lo - 1).toNat, by omega, Or.inl he, h1⟩
    · rintro ⟨q, h1, _, h2⟩
      by_cases h0 : q = 0
      · subst h0
        exact ⟨i, (ac_pows hx _ _ _).2 (by rw [show (lo - 1).toNat = 0 by omega]; rfl), (ac_orN _ _).2 (Or.inr ⟨decide_eq_true (by omega), h2⟩)⟩
      · have e : q = (lo - 1).toNat + (q - (lo - 1).toNat - 1 + 1) := by omega
        rw [e] at h2
        obtain ⟨m, h3, h4⟩ := (pw_add _ _ _ i j).1 h2
        exact ⟨m, (ac_pows hx _ _ _).2 h3, (ac_orN _ _).2 (Or.inl ((ac_loop _ _).2 ⟨_, h4⟩))⟩
  · rw [if_neg hh, ac_cat (hx.pows _)]
    constructor
    · rintro ⟨m, h1, h2⟩
      rw [ac_pows hx] at h1
      obtain ⟨q, hq, h2⟩ := (ac_opts hx _ _ _).1 h2
      exact ⟨lo.toNat + q, by omega, Or.inr (by omega), (pw_add _ _ _ i j).2 ⟨m, h1, h2⟩⟩
    · rintro ⟨q, h1, h2, h3⟩
      have e : q = lo.toNat + (q - lo.toNat) := by omega
      rw [e] at h3
      obtain ⟨m, h4, h5⟩ := (pw_add _ _ _ i j).1 h3
      exact ⟨m, (ac_pows hx _ _ _).2 h4, (ac_opts hx _ _ _).2 ⟨_, by omega, h5⟩⟩
theorem pw_congr {r s : Nat → Nat → Prop} (h : ∀ i j, r i j ↔ s i j) : r = s := ext2 h
/-- A pattern matches just what its places take. -/
theorem mt_ac (c : Nat → Int) (L : Nat) : ∀ t : Tr, fitT t = true → ∀ i j, mt c L t i j ↔ ac c L (plT t) i j
  | .node k s lo hi a n cap kid, h => by
    intro i j
    have hf := fitT_fits h
    have hk : ∀ q, q < n → ∀ i j, mt c L (kid q) i j ↔ ac c L (plT (kid q)) i j := fun q hq => mt_ac c L (kid q) (fitT_kid h (i := q) hq)
    have hc := fits_cases hf
    have hct := fits_counts hf
    simp only [Tr.k, Tr.n, Tr.lo, Tr.hi] at hc hct
    unfold mt
    rcases hc with ⟨h1, h2⟩ | ⟨h1, h2⟩ | ⟨h1 | h1, h2⟩ | ⟨h1, h2, _⟩
    · rw [if_pos h1, plT_1 (t := .node k s lo hi a n cap kid) h1, ac_nil]
      exact ⟨fun h => ⟨h, rfl⟩, fun h => h.1⟩
    · rw [if_neg (by omega), if_pos h1, plT_2 (t := .node k s lo hi a n cap kid) h1, ac_one]
      exact Iff.rfl
    · rw [if_neg (by omega), if_neg (by omega), if_pos h1, plT_3 (t := .node k s lo hi a n cap kid) h1]
      show chain (fun q => mt c L (kid q)) n i j ↔ ac c L (Pl.catTo (fun q => plT (kid q)) n) i j
      rw [ac_catTo (fun q => plT_ok _), chain_congr fun q hq => ext2 (hk q hq)]
    · rw [if_neg (by omega), if_neg (by omega), if_neg (by omega), if_pos h1, plT_4 (t := .node k s lo hi a n cap kid) h1]
      show (∃ q, q < n ∧ mt c L (kid q) i j) ↔ ac c L (Pl.altTo (fun q => plT (kid q)) n) i j
      rw [ac_altTo (fun q => plT_ok _)]
      exact ⟨fun ⟨q, hq, h⟩ => ⟨q, hq, (hk q hq i j).1 h⟩, fun ⟨q, hq, h⟩ => ⟨q, hq, (hk q hq i j).2 h⟩⟩
    · rw [if_neg (by omega), if_neg (by omega), if_neg (by omega), if_neg (by omega), plT_5 (t := .node k s lo hi a n cap kid) h1]
      show tms (mt c L (kid 0)) lo hi i j ↔ ac c L ((plT (kid 0)).rep lo hi) i j
      rw [ac_rep (plT_ok _) (hct h1).1, ext2 (hk 0 (by omega))]
  | .nul, h => by cases h
end Go.Proofs.Ytbahadgcmaabcaa
