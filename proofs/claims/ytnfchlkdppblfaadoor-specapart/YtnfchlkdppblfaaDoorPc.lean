/- Unlike patterns have unlike texts. -/
import Derived.Test.YtnfchlkdppblfaaDoorPb
namespace Go.Proofs.YtnfchlkdppblfaaDoor
open Go.RowKit
/-- What may follow a Cat's text, a whole text, a part. -/
def IsEnd (r : List UInt8) : Prop := r = [] ∨ ∃ m, r = 41 :: m ∨ r = 124 :: m
def IsClose (r : List UInt8) : Prop := r = [] ∨ ∃ m, r = 41 :: m
def NoBrace (r : List UInt8) : Prop := ∀ m, r ≠ 123 :: m
set_option maxRecDepth 100000 in
theorem IsClose.isEnd {r : List UInt8} (h : IsClose r) : IsEnd r := by
  rcases h with h | ⟨m, h⟩
  · exact Or.inl h
  · exact Or.inr ⟨m, Or.inl h⟩
set_option maxRecDepth 100000 in
theorem IsEnd.noBrace {r : List UInt8} (h : IsEnd r) : NoBrace r := by
  intro m e
  rcases h with h | ⟨m', h | h⟩
  · rw [h] at e; cases e
  · rw [h] at e; injection e with e _; exact absurd e (by decide)
  · rw [h] at e; injection e with e _; exact absurd e (by decide)
set_option maxRecDepth 100000 in
theorem Good.noBrace {r : List UInt8} (h : Good r) : NoBrace r := by
  intro m e
  obtain ⟨c, m', hc, _, h2, _⟩ := h
  rw [hc] at e; injection e with e _; exact h2 e
set_option maxRecDepth 100000 in
theorem Good.not_end {r : List UInt8} (h : Good r) (h' : IsEnd r) : False := by
  obtain ⟨c, m', hc, h1, _, h3⟩ := h
  rcases h' with h' | ⟨m, h' | h'⟩
  · rw [hc] at h'; cases h'
  · rw [hc] at h'; injection h' with e _; exact h1 e
  · rw [hc] at h'; injection h' with e _; exact h3 e
/-- A part's text tells the part. -/
def FacP (f : Tr) : Prop := ∀ u, Ok u → u.k ≠ 3 → ∀ r r', NoBrace r → NoBrace r' → fac f ++ r = fac u ++ r' → sameT f u = true ∧ r = r'
set_option maxRecDepth 100000 in
theorem facL_noBrace {L : List Tr} (h : ∀ f ∈ L, Ok f) {r : List UInt8} (hr : IsEnd r) : NoBrace (facL L ++ r) := by
  cases L with
  | nil => exact hr.noBrace
  | cons f fs => rw [show facL (f :: fs) ++ r = fac f ++ (facL fs ++ r) by simp [facL]]; exact ((fac_good (h f (by simp))).append _).noBrace
set_option maxRecDepth 100000 in
theorem facL_inj : ∀ {L M : List Tr}, (∀ f ∈ L, Ok f ∧ FacP f) → (∀ u ∈ M, Ok u ∧ u.k ≠ 3) → ∀ {r r' : List UInt8}, IsEnd r → IsEnd r' → facL L ++ r = facL M ++ r' → sameL L M ∧ r = r'
  | [], [], _, _, r, r', _, _, h => ⟨trivial, by simpa [facL] using h⟩
  | [], u :: us, _, hM, r, r', hr, _, h => by
    rw [show facL (u :: us) ++ r' = fac u ++ (facL us ++ r') by simp [facL]] at h
    exact False.elim (((fac_good (hM u (by simp)).1).append _).not_end (by rw [← h]; simpa [facL] using hr))
  | f :: fs, [], hL, _, r, r', _, hr', h => by
    rw [show facL (f :: fs) ++ r = fac f ++ (facL fs ++ r) by simp [facL]] at h
    exact False.elim (((fac_good (hL f (by simp)).1).append _).not_end (by rw [h]; simpa [facL] using hr'))
  | f :: fs, u :: us, hL, hM, r, r', hr, hr', h => by
    rw [show facL (f :: fs) ++ r = fac f ++ (facL fs ++ r) by simp [facL], show facL (u :: us) ++ r' = fac u ++ (facL us ++ r') by simp [facL]] at h
    have hu := hM u (by simp)
    obtain ⟨h1, h2⟩ := (hL f (by simp)).2 u hu.1 hu.2 _ _ (facL_noBrace (fun g hg => (hL g (by simp [hg])).1) hr) (facL_noBrace (fun g hg => (hM g (by simp [hg])).1) hr') h
    obtain ⟨h3, h4⟩ := facL_inj (fun g hg => hL g (by simp [hg])) (fun g hg => hM g (by simp [hg])) hr hr' h2
    exact ⟨⟨h1, h3⟩, h4⟩
/-- A pattern's parts, where it is no Alt. -/
def facs (t : Tr) : List Tr := if t.k = 3 then kidsL t.kid t.n else [t]
set_option maxRecDepth 100000 in
theorem facs_txt {t : Tr} (h4 : t.k ≠ 4) : txt t = facL (facs t) := by
  unfold facs
  split
  · exact txt_3 (by assumption)
  · simp [facL, fac_ne h4]
set_option maxRecDepth 100000 in
theorem facs_ok {t : Tr} (h : Ok t) : ∀ f ∈ facs t, Ok f ∧ f.k ≠ 3 ∧ cnt f ≤ cnt t := by
  intro f hf
  unfold facs at hf
  split at hf
  · rename_i e
    obtain ⟨i, hi, rfl⟩ := kidsL_mem hf
    have hne := (fits_many_ne (fitT_fits h.1) (Or.inl e)).2 i hi
    refine ⟨h.kid hi, by omega, ?_⟩
    have h1 : cnt (t.kid i) ≤ sumTo (fun i => cnt (t.kid i)) (i + 1) := by simp only [sumTo]; omega
    have h2 := sumTo_mono (fun i => cnt (t.kid i)) (show i + 1 ≤ t.n by omega)
    rw [cnt_dsc t]; unfold dsc; omega
  · rw [List.mem_singleton] at hf; subst hf; exact ⟨h, by assumption, Nat.le_refl _⟩
set_option maxRecDepth 100000 in
theorem kid_lt {t : Tr} {i : Nat} (hi : i < t.n) : cnt (t.kid i) < cnt t := by
  have h1 : cnt (t.kid i) ≤ sumTo (fun i => cnt (t.kid i)) (i + 1) := by simp only [sumTo]; omega
  have h2 := sumTo_mono (fun i => cnt (t.kid i)) (show i + 1 ≤ t.n by omega)
  rw [cnt_dsc t]; unfold dsc; omega
set_option maxRecDepth 100000 in
theorem cat_inj {t u : Tr} (ht : Ok t) (hu : Ok u) (t4 : t.k ≠ 4) (u4 : u.k ≠ 4) (hF : ∀ f ∈ facs t, FacP f) {r r' : List UInt8} (hr : IsEnd r) (hr' : IsEnd r') (h : txt t ++ r = txt u ++ r') : sameT t u = true ∧ r = r' := by
  rw [facs_txt t4, facs_txt u4] at h
  obtain ⟨h1, h2⟩ := facL_inj (fun f hf => ⟨(facs_ok ht f hf).1, hF f hf⟩) (fun f hf => ⟨(facs_ok hu f hf).1, (facs_ok hu f hf).2.1⟩) hr hr' h
  refine ⟨?_, h2⟩
  by_cases p : t.k = 3
  · by_cases q : u.k = 3
    · rw [facs, facs, if_pos p, if_pos q] at h1
      exact same_kids ht hu (by omega) (by omega) (by omega) h1
    · rw [facs, facs, if_pos p, if_neg q] at h1
      have := (sameL_get h1).1
      rw [kidsL_len] at this
      have := (fits_many_ne (fitT_fits ht.1) (Or.inl p)).1
      simp at *; omega
  · by_cases q : u.k = 3
    · rw [facs, facs, if_neg p, if_pos q] at h1
      have := (sameL_get h1).1
      rw [kidsL_len] at this
      have := (fits_many_ne (fitT_fits hu.1) (Or.inl q)).1
      simp at *; omega
    · rw [facs, facs, if_neg p, if_neg q] at h1
      exact h1.1
/-- What is known of a pattern that is no Alt. -/
def CatP (a : Tr) : Prop := Ok a ∧ a.k ≠ 4 ∧ ∀ f ∈ facs a, FacP f
set_option maxRecDepth 100000 in
theorem sep_end (L : List Tr) {r : List UInt8} (hr : IsClose r) : IsEnd (sepL L ++ r) := by
  cases L with
  | nil => simpa [sepL] using hr.isEnd
  | cons t ts => exact Or.inr ⟨_, Or.inr (by simp [sepL]; rfl)⟩
set_option maxRecDepth 100000 in
theorem alt_inj : ∀ {al bl : List Tr} {a b : Tr}, CatP a → (∀ x ∈ al, CatP x) → (Ok b ∧ b.k ≠ 4) → (∀ x ∈ bl, Ok x ∧ x.k ≠ 4) → ∀ {r r' : List UInt8}, IsClose r → IsClose r' → txt a ++ (sepL al ++ r) = txt b ++ (sepL bl ++ r') → sameL (a :: al) (b :: bl) ∧ r = r'
  | al, bl, a, b, ha, has, hb, hbs, r, r', hr, hr', h => by
    obtain ⟨h1, h2⟩ := cat_inj ha.1 hb.1 ha.2.1 hb.2 ha.2.2 (sep_end al hr) (sep_end bl hr') h
    match al, bl, has, hbs, h2 with
    | [], [], _, _, h2 => exact ⟨⟨h1, trivial⟩, by simpa [sepL] using h2⟩
    | [], b' :: bl2, _, _, h2 =>
      simp only [sepL, List.flatMap_nil, List.nil_append, List.flatMap_cons, List.cons_append] at h2
      rcases hr with hr | ⟨m, hr⟩
      · rw [hr] at h2; cases h2
      · rw [hr] at h2; injection h2 with e _; exact absurd e (by decide)
    | a' :: al2, [], _, _, h2 =>
      simp only [sepL, List.flatMap_nil, List.nil_append, List.flatMap_cons, List.cons_append] at h2
      rcases hr' with hr' | ⟨m, hr'⟩
      · rw [hr'] at h2; cases h2
      · rw [hr'] at h2; injection h2 with e _; exact absurd e (by decide)
    | a' :: al2, b' :: bl2, has, hbs, h2 =>
      have h3 : txt a' ++ (sepL al2 ++ r) = txt b' ++ (sepL bl2 ++ r') := by
        simpa [sepL] using h2
      obtain ⟨h4, h5⟩ := alt_inj (al := al2) (bl := bl2) (has a' (by simp)) (fun x hx => has x (by simp [hx])) (hbs b' (by simp)) (fun x hx => hbs x (by simp [hx])) hr hr' h3
      exact ⟨⟨h1, h4⟩, h5⟩
/-- A pattern's ways. -/
def altH (t : Tr) : Tr := if t.k = 4 then t.kid 0 else t
def altT (t : Tr) : List Tr := if t.k = 4 then kidsL (fun i => t.kid (i + 1)) (t.n - 1) else []
set_option maxRecDepth 100000 in
theorem alts_txt {t : Tr} (h : Ok t) : txt t = txt (altH t) ++ sepL (altT t) := by
  unfold altH altT
  by_cases p : t.k = 4
  · have := (fits_many_ne (fitT_fits h.1) (Or.inr p)).1
    rw [if_pos p, if_pos p]; exact txt_4 p (by omega)
  · rw [if_neg p, if_neg p]; simp [sepL]
set_option maxRecDepth 100000 in
theorem alts_ok {t : Tr} (h : Ok t) : ∀ a, (a = altH t ∨ a ∈ altT t) → Ok a ∧ a.k ≠ 4 ∧ (t.k = 4 → cnt a < cnt t) ∧ cnt a ≤ cnt t := by
  intro a ha
  unfold altH altT at ha
  by_cases p : t.k = 4
  · rw [if_pos p, if_pos p] at ha
    obtain ⟨h2, hne⟩ := fits_many_ne (fitT_fits h.1) (Or.inr p)
    have key : ∀ i, i < t.n → Ok (t.kid i) ∧ (t.kid i).k ≠ 4 ∧ (t.k = 4 → cnt (t.kid i) < cnt t) ∧ cnt (t.kid i) ≤ cnt t := fun i hi => ⟨h.kid hi, by have := hne i hi; omega, fun _ => kid_lt hi, Nat.le_of_lt (kid_lt hi)⟩
    rcases ha with rfl | ha
    · exact key 0 (by omega)
    · obtain ⟨i, hi, rfl⟩ := kidsL_mem ha
      exact key (i + 1) (by omega)
  · rw [if_neg p, if_neg p] at ha
    rcases ha with rfl | ha
    · exact ⟨h, p, fun q => absurd q p, Nat.le_refl _⟩
    · cases ha
set_option maxRecDepth 100000 in
theorem full_inj {t u : Tr} (ht : Ok t) (hu : Ok u) (hF : ∀ a, (a = altH t ∨ a ∈ altT t) → ∀ f ∈ facs a, FacP f) {r r' : List UInt8} (hr : IsClose r) (hr' : IsClose r') (h : txt t ++ r = txt u ++ r') : sameT t u = true ∧ r = r' := by
  rw [alts_txt ht, alts_txt hu, List.append_assoc, List.append_assoc] at h
  have kt := alts_ok ht
  have ku := alts_ok hu
  obtain ⟨h1, h2⟩ := alt_inj ⟨(kt _ (Or.inl rfl)).1, (kt _ (Or.inl rfl)).2.1, hF _ (Or.inl rfl)⟩ (fun x hx => ⟨(kt x (Or.inr hx)).1, (kt x (Or.inr hx)).2.1, hF x (Or.inr hx)⟩) ⟨(ku _ (Or.inl rfl)).1, (ku _ (Or.inl rfl)).2.1⟩ (fun x hx => ⟨(ku x (Or.inr hx)).1, (ku x (Or.inr hx)).2.1⟩) hr hr' h
  refine ⟨?_, h2⟩
  have whole : ∀ {x : Tr}, Ok x → x.k = 4 → altH x :: altT x = kidsL x.kid x.n ∧ 2 ≤ x.n := fun {x} hx p => by
    have h2 := (fits_many_ne (fitT_fits hx.1) (Or.inr p)).1
    refine ⟨?_, h2⟩
    obtain ⟨m, hm⟩ : ∃ m, x.n = m + 1 := ⟨x.n - 1, by omega⟩
    unfold altH altT
    rw [if_pos p, if_pos p, hm]
    simp [kidsL, List.range_succ_eq_map, Function.comp_def]
  have sole : ∀ {x : Tr}, x.k ≠ 4 → altH x :: altT x = [x] := fun {x} p => by unfold altH altT; rw [if_neg p, if_neg p]
  by_cases p : t.k = 4
  · obtain ⟨e1, e2⟩ := whole ht p
    rw [e1] at h1
    by_cases q : u.k = 4
    · rw [(whole hu q).1] at h1
      exact same_kids ht hu (by omega) (by omega) (by omega) h1
    · rw [sole q] at h1
      have := (sameL_get h1).1
      rw [kidsL_len] at this
      simp at this; omega
  · rw [sole p] at h1
    by_cases q : u.k = 4
    · obtain ⟨e1, e2⟩ := whole hu q
      rw [e1] at h1
      have := (sameL_get h1).1
      rw [kidsL_len] at this
      simp at this; omega
    · rw [sole q] at h1
      exact h1.1
set_option maxRecDepth 100000 in
/-- An atom's text tells the pattern. -/
theorem atom_inj {x y : Tr} (hx : Ok x) (hy : Ok y) (hF : x.k ≠ 1 → x.k ≠ 2 → ∀ a, (a = altH x ∨ a ∈ altT x) → ∀ f ∈ facs a, FacP f) {r r' : List UInt8} (h : atom x ++ r = atom y ++ r') : sameT x y = true ∧ r = r' := by
  have kind : ∀ {z : Tr}, Ok z → z.k = 1 ∨ z.k = 2 ∨ (z.k = 3 ∨ z.k = 4 ∨ z.k = 5) := fun hz => by
    rcases hz.cases with q | q | ⟨q | q, _⟩ | q
    · exact Or.inl q.1
    · exact Or.inr (Or.inl q.1)
    · exact Or.inr (Or.inr (Or.inl q))
    · exact Or.inr (Or.inr (Or.inr (Or.inl q)))
    · exact Or.inr (Or.inr (Or.inr (Or.inr q.1)))
  have n0 : ∀ {z : Tr}, Ok z → (z.k = 1 ∨ z.k = 2) → z.n = 0 := fun hz q => by rcases hz.cases with p | p | p | p <;> omega
  have leaf : ∀ {z z' : Tr}, Ok z → Ok z' → z.k = z'.k → (z.k = 1 ∨ z.k = 2) → (z.k = 2 → eqS z.s z'.s = true) → sameT z z' = true := fun {z z'} hz hz' e q e2 =>
    same_of (like_of hz hz' e e2 (fun q' => by omega) (by rw [n0 hz q, n0 hz' (by omega)])) fun i hi => by rw [n0 hz q] at hi; omega
  have second : ∀ {z : Tr} {m m' : List UInt8}, Ok z → 41 :: m = txt z ++ m' → False := fun {z m m'} hz e => by
    obtain ⟨c, l, hc, h41, _⟩ := txt_good hz
    rw [hc] at e
    injection e with e _
    exact h41 e.symm
  have first : ∀ {s : Nat → Int} {m m' : List UInt8}, 40 :: m = setT s ++ m' → False := fun {s m m'} e => by
    obtain ⟨c, l, hc, h40, _⟩ := setT_head s
    rw [hc] at e
    injection e with e _
    exact h40 e.symm
  rcases kind hx with p | p | p
  · rw [atom_le (Or.inl p), txt_1 p] at h
    rcases kind hy with q | q | q
    · rw [atom_le (Or.inl q), txt_1 q] at h
      exact ⟨leaf hx hy (by omega) (Or.inl p) (fun e => by omega), by simpa using h⟩
    · rw [atom_le (Or.inr q), txt_2 q] at h
      exact False.elim (first h)
    · rw [atom_ge q] at h
      simp only [List.cons_append, List.nil_append, List.cons.injEq, true_and, List.append_assoc] at h
      exact False.elim (second hy h)
  · rw [atom_le (Or.inr p), txt_2 p] at h
    rcases kind hy with q | q | q
    · rw [atom_le (Or.inl q), txt_1 q] at h
      exact False.elim (first h.symm)
    · rw [atom_le (Or.inr q), txt_2 q] at h
      obtain ⟨e, h⟩ := setT_inj hx.wf hy.wf h
      exact ⟨leaf hx hy (by omega) (Or.inr p) (fun _ => e), h⟩
    · rw [atom_ge q] at h
      exact False.elim (first h.symm)
  · rw [atom_ge p] at h
    rcases kind hy with q | q | q
    · rw [atom_le (Or.inl q), txt_1 q] at h
      simp only [List.cons_append, List.nil_append, List.cons.injEq, true_and, List.append_assoc] at h
      exact False.elim (second hx h.symm)
    · rw [atom_le (Or.inr q), txt_2 q] at h
      exact False.elim (first h)
    · rw [atom_ge q] at h
      simp only [List.cons_append, List.nil_append, List.cons.injEq, true_and, List.append_assoc] at h
      obtain ⟨h1, h2⟩ := full_inj hx hy (hF (by omega) (by omega)) (Or.inr ⟨_, rfl⟩) (Or.inr ⟨_, rfl⟩) h
      exact ⟨h1, by simpa using h2⟩
/-- A part is an atom, and counts behind it. -/
def baseT (f : Tr) : Tr := if f.k = 5 then f.kid 0 else f
def tailT (f : Tr) : List UInt8 := if f.k = 5 then countsT f.lo f.hi else []
set_option maxRecDepth 100000 in
theorem fac_split {f : Tr} (h : Ok f) (h3 : f.k ≠ 3) : fac f = atom (baseT f) ++ tailT f := by
  unfold baseT tailT
  rcases h.cases with ⟨q, _⟩ | ⟨q, _⟩ | ⟨q | q, _⟩ | ⟨q, hn⟩
  · rw [if_neg (by omega), if_neg (by omega), fac_ne (by omega), atom_le (Or.inl q), List.append_nil]
  · rw [if_neg (by omega), if_neg (by omega), fac_ne (by omega), atom_le (Or.inr q), List.append_nil]
  · exact absurd q h3
  · rw [if_neg (by omega), if_neg (by omega), fac_4 q, atom_ge (Or.inr (Or.inl q)), List.append_nil]
  · rw [if_pos q, if_pos q, fac_ne (by omega), txt_5 q hn]
set_option maxRecDepth 100000 in
theorem base_ok {f : Tr} (h : Ok f) : Ok (baseT f) := by
  unfold baseT
  by_cases q : f.k = 5
  · rw [if_pos q]
    rcases h.cases with p | p | p | p
    · omega
    · omega
    · omega
    · exact h.kid (by omega)
  · rw [if_neg q]; exact h
set_option maxRecDepth 100000 in
theorem counts_head (lo hi : Int) (r : List UInt8) : ∃ m, countsT lo hi ++ r = 123 :: m := ⟨_, by unfold countsT; simp only [List.cons_append, List.nil_append, List.append_assoc]; rfl⟩
set_option maxRecDepth 100000 in
theorem facP_all : ∀ (N : Nat) (f : Tr), cnt f ≤ N → Ok f → f.k ≠ 3 → FacP f := by
  intro N
  induction N with
  | zero => intro f h; have := cnt_pos f; omega
  | succ N ih =>
    intro f hN hf h3 u hu u3 r r' hr hr' h
    rw [fac_split hf h3, fac_split hu u3, List.append_assoc, List.append_assoc] at h
    have hF : (baseT f).k ≠ 1 → (baseT f).k ≠ 2 → ∀ a, (a = altH (baseT f) ∨ a ∈ altT (baseT f)) → ∀ g ∈ facs a, FacP g := fun b1 b2 a ha g hg => by
      obtain ⟨oa, _, ca, ca'⟩ := alts_ok (base_ok hf) a ha
      obtain ⟨og, g3, cg⟩ := facs_ok oa g hg
      refine ih g ?_ og g3
      by_cases q : f.k = 5
      · have hb : baseT f = f.kid 0 := by unfold baseT; rw [if_pos q]
        have : f.n = 1 := by rcases hf.cases with p | p | p | p <;> omega
        have := kid_lt (t := f) (i := 0) (by omega)
        rw [hb] at ca'
        omega
      · have hb : baseT f = f := by unfold baseT; rw [if_neg q]
        rw [hb] at ca b1 b2
        have : f.k = 4 := by rcases hf.cases with p | p | ⟨p | p, _⟩ | p <;> omega
        have := ca this
        omega
    obtain ⟨h1, h2⟩ := atom_inj (base_ok hf) (base_ok hu) hF h
    unfold tailT at h2
    by_cases p : f.k = 5
    · by_cases q : u.k = 5
      · rw [if_pos p, if_pos q] at h2
        obtain ⟨e1, e2, e3⟩ := countsT_inj (hf.more.2.2 p) (hu.more.2.2 q) h2
        have n1 : f.n = 1 := by rcases hf.cases with w | w | w | w <;> omega
        have n2 : u.n = 1 := by rcases hu.cases with w | w | w | w <;> omega
        refine ⟨same_of (like_of hf hu (by omega) (fun w => by omega) (fun _ => ⟨e1, e2⟩) (by omega)) fun i hi => ?_, e3⟩
        obtain rfl : i = 0 := by omega
        unfold baseT at h1
        rwa [if_pos p, if_pos q] at h1
      · rw [if_pos p, if_neg q] at h2
        obtain ⟨m, hm⟩ := counts_head f.lo f.hi r
        rw [hm] at h2
        exact absurd h2.symm (hr' m)
    · by_cases q : u.k = 5
      · rw [if_neg p, if_pos q] at h2
        obtain ⟨m, hm⟩ := counts_head u.lo u.hi r'
        rw [hm] at h2
        exact absurd h2 (hr m)
      · rw [if_neg p, if_neg q] at h2
        unfold baseT at h1
        rw [if_neg p, if_neg q] at h1
        exact ⟨h1, by simpa using h2⟩
set_option maxRecDepth 100000 in
/-- THE TEXTS TELL THE PATTERNS. -/
theorem txt_inj {t u : Tr} (ht : Ok t) (hu : Ok u) (h : txt t = txt u) : sameT t u = true := by
  refine (full_inj ht hu (fun a ha f hf => ?_) (Or.inl rfl) (Or.inl rfl) (r := []) (r' := []) (by rw [h])).1
  obtain ⟨oa, _, _, _⟩ := alts_ok ht a ha
  obtain ⟨og, g3, _⟩ := facs_ok oa f hf
  exact facP_all _ f (Nat.le_refl _) og g3
end Go.Proofs.YtnfchlkdppblfaaDoor
