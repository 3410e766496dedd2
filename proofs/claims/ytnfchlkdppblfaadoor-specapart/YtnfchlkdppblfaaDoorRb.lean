/- Unlike rules have unlike texts, like ones have like: of the specifications that the law makes (plain mathematics). -/
import Derived.Test.YtnfchlkdppblfaaDoorPc
import Derived.Test.YtnfchlkdppblfaaDoorCq
import Derived.Test.YtnfchlkdppblfaaDoorCl
import Derived.Test.YtnfchlkdppblfaaDoorHf
namespace Go.Proofs.YtnfchlkdppblfaaDoor
open Go.RowKit Go
theorem setT_same {s s' : Nat → Int} (h : eqS s s' = true) : setT s = setT s' := by
  have : hasI s = hasI s' := funext fun b => hasI_congr h b
  unfold setT oneB runsS runsN
  rw [this]
theorem same_like {t u : Tr} (h : sameT t u = true) : t.k = u.k ∧ eqS t.s u.s = true ∧ t.lo = u.lo ∧ t.hi = u.hi ∧ t.n = u.n ∧ ∀ i, i < t.n → sameT (t.kid i) (u.kid i) = true := by
  rw [sameT_eq, Bool.and_eq_true] at h
  have h1 := h.1
  simp only [likeB, Bool.and_eq_true, decide_eq_true_eq] at h1
  exact ⟨h1.1, h1.2.1, h1.2.2.1, h1.2.2.2.1, h1.2.2.2.2, fun i hi => allTo_iff.1 h.2 i hi⟩
theorem txt_eq {t : Tr} (h : Ok t) : txt t = if t.k = 1 then [40, 41] else if t.k = 2 then setT t.s else catTo (pieceT t.k t.kid) t.n ++ (if t.k = 5 then countsT t.lo t.hi else []) := by
  cases t with
  | nul => rcases h.cases with q | q | q | q <;> simp [Tr.k] at q
  | node k s lo hi a n cap kid => rw [txt]; rfl
theorem txt_same : ∀ (N : Nat) {t u : Tr}, cnt t ≤ N → Ok t → Ok u → sameT t u = true → txt t = txt u := by
  intro N
  induction N with
  | zero => intro t u h; have := cnt_pos t; omega
  | succ N ih =>
    intro t u hN ht hu h
    obtain ⟨hk, hs, hl, hh, hn, hkid⟩ := same_like h
    rw [txt_eq ht, txt_eq hu, ← hk, ← hl, ← hh, ← hn, setT_same hs]
    congr 2
    congr 1
    refine catTo_congr _ fun i hi => ?_
    have hsi := hkid i hi
    have := ih (Nat.le_of_lt_succ (Nat.lt_of_lt_of_le (kid_lt hi) hN)) (ht.kid hi) (hu.kid (by omega)) hsi
    unfold pieceT
    rw [this, (same_like hsi).1]
theorem none_same {t u : Tr} (h : noneB t = true) (h' : noneB u = true) : sameT t u = true := by
  unfold noneB at h h'
  obtain ⟨a1, a2, a3, a4, a5, _⟩ := same_like h
  obtain ⟨b1, b2, b3, b4, b5, _⟩ := same_like h'
  rw [sameT_eq, Bool.and_eq_true]
  refine ⟨?_, allTo_iff.2 fun i hi => ?_⟩
  · simp only [likeB, Bool.and_eq_true, decide_eq_true_eq]
    exact ⟨a1.trans b1.symm, eqS_both a2 b2, a3.trans b3.symm, a4.trans b4.symm, a5.trans b5.symm⟩
  · have : zT.n = 0 := rfl
    omega
theorem none_of_same {t u : Tr} (h : sameT t u = true) (h' : noneB u = true) : noneB t = true := by
  unfold noneB at h' ⊢
  obtain ⟨a1, a2, a3, a4, a5, _⟩ := same_like h
  obtain ⟨b1, b2, b3, b4, b5, _⟩ := same_like h'
  rw [sameT_eq, Bool.and_eq_true]
  refine ⟨?_, allTo_iff.2 fun i hi => ?_⟩
  · simp only [likeB, Bool.and_eq_true, decide_eq_true_eq]
    refine ⟨a1.trans b1, ?_, a3.trans b3, a4.trans b4, a5.trans b5⟩
    simp only [eqS, Bool.and_eq_true, beq_iff_eq] at a2 b2 ⊢
    exact ⟨a2.1.trans b2.1, a2.2.1.trans b2.2.1, a2.2.2.1.trans b2.2.2.1, a2.2.2.2.trans b2.2.2.2⟩
  · have : zT.n = 0 := rfl
    omega
/-- A byte that a pattern's text may have. -/
def patC (b : UInt8) : Bool := b != 10 && (b != 32 && (b != 47 && (b != 60 && b != 94)))
def AP (l : List UInt8) : Prop := ∀ b ∈ l, patC b = true
theorem AP.app {l m : List UInt8} (h : AP l) (h' : AP m) : AP (l ++ m) := fun b hb => (List.mem_append.1 hb).elim (h b) (h' b)
theorem ap_nil : AP [] := fun b hb => by cases hb
theorem ap_of {l : List UInt8} (h : l.all patC = true) : AP l := fun b hb => List.all_eq_true.1 h b hb
theorem byteT_ap {b : Int} (h : 0 ≤ b ∧ b < 256) : AP (byteT b) := by
  have key : ∀ n : Fin 256, (byteT (n.val : Int)).all patC = true := by decide +kernel
  have := key ⟨b.toNat, by omega⟩
  rw [show ((⟨b.toNat, by omega⟩ : Fin 256).val : Int) = b by show (b.toNat : Int) = b; omega] at this
  exact ap_of this
theorem catTo_ap {f : Nat → List UInt8} : ∀ n, (∀ i, i < n → AP (f i)) → AP (catTo f n)
  | 0, _ => ap_nil
  | n + 1, h => by rw [catTo]; exact (catTo_ap n fun i hi => h i (by omega)).app (h n (by omega))
theorem rn_bd (s : Nat → Int) {i : Nat} (h : i < runsN s) : 0 ≤ lo (runsS s) i ∧ lo (runsS s) i ≤ hi (runsS s) i ∧ hi (runsS s) i < 256 := pairs_ok s (lo (runsS s) i, hi (runsS s) i) (List.mem_map.2 ⟨i, List.mem_range.2 h, rfl⟩)
theorem setT_ap (s : Nat → Int) : AP (setT s) := by
  unfold setT
  split
  · rename_i h
    obtain ⟨_, _, h1, h2⟩ := one_ok h
    exact byteT_ap ⟨h1, h2⟩
  · refine ((ap_of (by decide)).app (catTo_ap _ fun i hi' => ?_)).app (ap_of (by decide))
    obtain ⟨h1, h2, h3⟩ := rn_bd s hi'
    unfold runT
    refine (byteT_ap ⟨h1, by omega⟩).app ?_
    split
    · exact (ap_of (by decide)).app (byteT_ap ⟨by omega, h3⟩)
    · exact ap_nil
theorem digs_ap (i : Nat) : AP (digs i) := by
  by_cases h : i ≤ 20
  · have key : ∀ m : Fin 21, (digs m.val).all patC = true := by decide +kernel
    exact ap_of (key ⟨i, by omega⟩)
  · have : digs i = [] := by
      unfold digs
      rw [List.getD_eq_getElem?_getD, List.getElem?_eq_none (by simp [digsL]; omega)]; rfl
    rw [this]; exact ap_nil
theorem countsT_ap (lo hi : Int) : AP (countsT lo hi) := by
  unfold countsT
  refine ((((ap_of (by decide)).app (digs_ap _)).app (ap_of (by decide))).app ?_).app (ap_of (by decide))
  split
  · exact ap_nil
  · exact digs_ap _
theorem encT_ap {l : List UInt8} (h : AP l) (b : Bool) : AP (encT l b) := by
  unfold encT
  split
  · exact ((ap_of (by decide)).app h).app (ap_of (by decide))
  · exact h
theorem txt_ap : ∀ t : Tr, AP (txt t)
  | .node k s lo hi a n cap kid => by
    have IH := fun i => txt_ap (kid i)
    by_cases h1 : k = 1
    · rw [txt, if_pos h1]; exact ap_of (by decide)
    · by_cases h2 : k = 2
      · rw [txt, if_neg h1, if_pos h2]; exact setT_ap s
      · rw [txt_many h1 h2]
        refine (catTo_ap _ fun i _ => ?_).app ?_
        · unfold pieceT
          refine AP.app ?_ (encT_ap (IH i) _)
          split
          · exact ap_of (by decide)
          · exact ap_nil
        · split
          · exact countsT_ap _ _
          · exact ap_nil
  | .nul => by rw [txt]; exact ap_nil
/-- Parted at the first of its kind. -/
theorem split1 {α : Type} {c : α} : ∀ {A A' X X' : List α}, (∀ b ∈ A, b ≠ c) → (∀ b ∈ A', b ≠ c) → A ++ c :: X = A' ++ c :: X' → A = A' ∧ X = X'
  | [], [], X, X', _, _, h => by simpa using h
  | [], b :: A', X, X', _, h', h => by
    simp only [List.nil_append, List.cons_append, List.cons.injEq] at h
    exact absurd h.1.symm (h' b (by simp))
  | b :: A, [], X, X', h1, _, h => by
    simp only [List.nil_append, List.cons_append, List.cons.injEq] at h
    exact absurd h.1 (h1 b (by simp))
  | b :: A, b' :: A', X, X', h1, h2, h => by
    simp only [List.cons_append, List.cons.injEq] at h
    obtain ⟨e1, e2⟩ := split1 (A := A) (A' := A') (fun x hx => h1 x (by simp [hx])) (fun x hx => h2 x (by simp [hx])) h.2
    exact ⟨by rw [h.1, e1], e2⟩
theorem split2 {α : Type} {c : α} {A A' T T' : List α} (h1 : ∀ b ∈ A, b ≠ c) (h2 : ∀ b ∈ A', b ≠ c) (hT : T = [] ∨ ∃ X, T = c :: X) (hT' : T' = [] ∨ ∃ X, T' = c :: X) (h : A ++ T = A' ++ T') : A = A' ∧ T = T' := by
  rcases hT with rfl | ⟨X, rfl⟩ <;> rcases hT' with rfl | ⟨X', rfl⟩
  · simpa using h
  · exfalso
    have : c ∈ A := by have : A = A' ++ c :: X' := by simpa using h
                       rw [this]; simp
    exact h1 c this rfl
  · exfalso
    have : c ∈ A' := by have : A' = A ++ c :: X := by simpa using h.symm
                        rw [this]; simp
    exact h2 c this rfl
  · obtain ⟨e1, e2⟩ := split1 h1 h2 h
    exact ⟨e1, by rw [e2]⟩
theorem flat_inj : ∀ {L M : List (List UInt8)}, (∀ x ∈ L, ∀ b ∈ x, b ≠ 10) → (∀ x ∈ M, ∀ b ∈ x, b ≠ 10) → flatLn L = flatLn M → L = M
  | [], [], _, _, _ => rfl
  | [], y :: M, _, _, h => by simp [flatLn] at h
  | x :: L, [], _, _, h => by simp [flatLn] at h
  | x :: L, y :: M, h1, h2, h => by
    simp only [flatLn, List.append_assoc, List.cons_append, List.nil_append] at h
    obtain ⟨e1, e2⟩ := split1 (h1 x (by simp)) (h2 y (by simp)) h
    rw [e1, flat_inj (L := L) (M := M) (fun z hz => h1 z (by simp [hz])) (fun z hz => h2 z (by simp [hz])) e2]
/-! The finitely many ways to begin a rule, and to end it. -/
def stS : Nat → List UInt8
  | 0 => [60, 42, 62]
  | 1 => []
  | 2 => [60, 73, 78, 73, 84, 73, 65, 76, 62]
  | 3 => [60, 66, 62]
  | 4 => [60, 67, 95, 49, 62]
  | 5 => [60, 73, 78, 73, 84, 73, 65, 76, 44, 66, 62]
  | 6 => [60, 73, 78, 73, 84, 73, 65, 76, 44, 67, 95, 49, 62]
  | 7 => [60, 66, 44, 67, 95, 49, 62]
  | _ => [60, 73, 78, 73, 84, 73, 65, 76, 44, 66, 44, 67, 95, 49, 62]
def cnOf : Nat → Nat
  | 0 => 0 | 1 => 0 | 2 => 1 | 3 => 1 | 4 => 1 | 5 => 2 | 6 => 2 | 7 => 2 | _ => 3
def csOf : Nat → Nat → Int
  | 2, _ => 0 | 3, _ => 1 | 4, _ => 2
  | 5, i => i | 6, 0 => 0 | 6, _ => 2 | 7, i => i + 1 | 8, i => i | _, _ => 0
/-- What follows the beginning of a rule. -/
def HX (X : List UInt8) : Prop := (∃ m, X = 60 :: 60 :: m) ∨ ∃ c m, X = c :: m ∧ c ≠ 60
set_option maxHeartbeats 4000000 in
theorem st_inj {a b : Nat} (ha : a < 9) (hb : b < 9) {X X' : List UInt8} (hX : HX X) (hX' : HX X') (h : stS a ++ X = stS b ++ X') : a = b ∧ X = X' := by
  have ha' : a = 0 ∨ a = 1 ∨ a = 2 ∨ a = 3 ∨ a = 4 ∨ a = 5 ∨ a = 6 ∨ a = 7 ∨ a = 8 := by omega
  have hb' : b = 0 ∨ b = 1 ∨ b = 2 ∨ b = 3 ∨ b = 4 ∨ b = 5 ∨ b = 6 ∨ b = 7 ∨ b = 8 := by omega
  rcases hX with ⟨m, rfl⟩ | ⟨c, m, rfl, hc⟩ <;> rcases hX' with ⟨m', rfl⟩ | ⟨c', m', rfl, hc'⟩ <;> rcases ha' with rfl | rfl | rfl | rfl | rfl | rfl | rfl | rfl | rfl <;> rcases hb' with rfl | rfl | rfl | rfl | rfl | rfl | rfl | rfl | rfl <;>
    simp_all [stS]
theorem nm0 (ex : Bool) : nmL (cnM ex 0) = [73, 78, 73, 84, 73, 65, 76] := rfl
theorem nm1 (ex : Bool) : nmL (cnM ex 1) = [66] := rfl
theorem nm2 (ex : Bool) (i : Nat) : nmL (cnM ex (i + 2)) = [67, 95, 49] := rfl
theorem starts_code {r : Rl} {k : Nat} (ex : Bool) (h : startsB r k = true) (hk : k ≤ 3) : ∃ a, a < 9 ∧ startsT r (cnM ex) = stS a ∧ r.all = decide (a = 0) ∧ r.cn = cnOf a ∧ ∀ i, i < r.cn → r.cs i = csOf a i := by
  unfold startsB at h
  by_cases hall : r.all = true
  · rw [if_pos hall] at h
    have h0 := of_decide_eq_true h
    exact ⟨0, by omega, by unfold startsT; rw [if_pos hall]; rfl, by rw [hall]; rfl, h0, fun i hi => by omega⟩
  · rw [if_neg hall] at h
    have hall' : r.all = false := by cases q : r.all <;> simp_all
    have hb : ∀ i, i < r.cn → prvI r.cs i ≤ r.cs i ∧ r.cs i < (k : Int) := fun i hi => by
      have := allTo_iff.1 h i hi
      simpa using this
    have hS : startsT r (cnM ex) = if r.cn = 0 then [] else ([60] ++ Lib.join ((namesT r (cnM ex) r.cn).map (·.data.toList)) [44]) ++ [62] := by
      unfold startsT; rw [hall']; rfl
    have hcase : r.cn = 0 ∨ r.cn = 1 ∨ r.cn = 2 ∨ r.cn = 3 ∨ 4 ≤ r.cn := by omega
    have p0 : prvI r.cs 0 = 0 := rfl
    have p1 : prvI r.cs 1 = r.cs 0 + 1 := rfl
    have p2 : prvI r.cs 2 = r.cs 1 + 1 := rfl
    have p3 : prvI r.cs 3 = r.cs 2 + 1 := rfl
    have key1 : ∀ v : Int, 0 ≤ v → v < 3 → v = 0 ∨ v = 1 ∨ v = 2 := fun v _ _ => by omega
    have f1 : ∀ {g : Nat → Int}, r.cn = 1 → r.cs 0 = g 0 → ∀ i, i < r.cn → r.cs i = g i := by
      intro g h0 e i hi
      have : i = 0 := by omega
      subst this
      exact e
    have f2 : ∀ {g : Nat → Int}, r.cn = 2 → r.cs 0 = g 0 → r.cs 1 = g 1 → ∀ i, i < r.cn → r.cs i = g i := by
      intro g h0 e e' i hi
      have : i = 0 ∨ i = 1 := by omega
      rcases this with rfl | rfl
      · exact e
      · exact e'
    have f3 : ∀ {g : Nat → Int}, r.cn = 3 → r.cs 0 = g 0 → r.cs 1 = g 1 → r.cs 2 = g 2 → ∀ i, i < r.cn → r.cs i = g i := by
      intro g h0 e e' e'' i hi
      have : i = 0 ∨ i = 1 ∨ i = 2 := by omega
      rcases this with rfl | rfl | rfl
      · exact e
      · exact e'
      · exact e''
    have hd : ∀ a : Nat, a ≠ 0 → r.all = decide (a = 0) := fun a ha => by rw [hall', decide_eq_false ha]
    rcases hcase with h0 | h0 | h0 | h0 | h0
    · exact ⟨1, by omega, by rw [hS, if_pos h0]; rfl, hd 1 (by omega), h0, fun i hi => by omega⟩
    · have b0 := hb 0 (by omega)
      rcases key1 (r.cs 0) (by omega) (by omega) with e | e | e
      · exact ⟨2, by omega, by rw [hS, h0]; simp [namesT, e, Lib.join, cnM, stS], hd 2 (by omega), h0, f1 h0 e⟩
      · exact ⟨3, by omega, by rw [hS, h0]; simp [namesT, e, Lib.join, cnM, stS], hd 3 (by omega), h0, f1 h0 e⟩
      · exact ⟨4, by omega, by rw [hS, h0]; simp [namesT, e, Lib.join, cnM, stS], hd 4 (by omega), h0, f1 h0 e⟩
    · have b0 := hb 0 (by omega)
      have b1 := hb 1 (by omega)
      have e3 : (r.cs 0 = 0 ∧ r.cs 1 = 1) ∨ (r.cs 0 = 0 ∧ r.cs 1 = 2) ∨ (r.cs 0 = 1 ∧ r.cs 1 = 2) := by omega
      rcases e3 with ⟨e, e'⟩ | ⟨e, e'⟩ | ⟨e, e'⟩
      · exact ⟨5, by omega, by rw [hS, h0]; simp [namesT, List.range_succ, e, e', Lib.join, cnM, stS], hd 5 (by omega), h0, f2 h0 e e'⟩
      · exact ⟨6, by omega, by rw [hS, h0]; simp [namesT, List.range_succ, e, e', Lib.join, cnM, stS], hd 6 (by omega), h0, f2 h0 e e'⟩
      · exact ⟨7, by omega, by rw [hS, h0]; simp [namesT, List.range_succ, e, e', Lib.join, cnM, stS], hd 7 (by omega), h0, f2 h0 e e'⟩
    · have b0 := hb 0 (by omega)
      have b1 := hb 1 (by omega)
      have b2 := hb 2 (by omega)
      have e : r.cs 0 = 0 := by omega
      have e' : r.cs 1 = 1 := by omega
      have e'' : r.cs 2 = 2 := by omega
      exact ⟨8, by omega, by rw [hS, h0]; simp [namesT, List.range_succ, e, e', e'', Lib.join, cnM, stS], hd 8 (by omega), h0, f3 h0 e e' e''⟩
    · have b0 := hb 0 (by omega)
      have b1 := hb 1 (by omega)
      have b2 := hb 2 (by omega)
      have b3 := hb 3 (by omega)
      omega
def acS : Nat → List UInt8
  | 0 => [101, 109, 105, 116]
  | 1 => [115, 107, 105, 112]
  | 2 => [98, 101, 103, 105, 110, 32, 73, 78, 73, 84, 73, 65, 76]
  | 3 => [98, 101, 103, 105, 110, 32, 66]
  | _ => [98, 101, 103, 105, 110, 32, 67, 95, 49]
def acOf : Nat → Int
  | 0 => 1 | 1 => 2 | _ => 3
def toOf : Nat → Int
  | 3 => 1 | 4 => 2 | _ => 0
theorem ac_inj : ∀ a b : Fin 5, acS a.val = acS b.val → a = b := by decide
theorem act_code {r : Rl} {k : Nat} (ex : Bool) (h : actB r k = true) (hk : k ≤ 3) : ∃ a, a < 5 ∧ actT r.act (nmL (cnM ex r.to.toNat)) = acS a ∧ r.act = acOf a ∧ r.to = toOf a := by
  unfold actB at h
  split at h
  · rename_i q
    have h0 := of_decide_eq_true h
    rcases q with q | q
    · exact ⟨0, by omega, by unfold actT; rw [if_pos q]; rfl, q, h0⟩
    · exact ⟨1, by omega, by unfold actT; rw [if_neg (by omega), if_pos q]; rfl, q, h0⟩
  · split at h
    · rename_i q q3
      have hx := ixB_iff.1 h
      have : r.to = 0 ∨ r.to = 1 ∨ r.to = 2 := by omega
      have hA : ∀ l, actT r.act l = [98, 101, 103, 105, 110, 32] ++ l := fun l => by unfold actT; rw [if_neg (by omega), if_neg (by omega)]
      rcases this with e | e | e
      · exact ⟨2, by omega, by rw [hA, e]; rfl, q3, e⟩
      · exact ⟨3, by omega, by rw [hA, e]; rfl, q3, e⟩
      · exact ⟨4, by omega, by rw [hA, e]; rfl, q3, e⟩
    · cases h
end Go.Proofs.YtnfchlkdppblfaaDoor
/- Unlike rules have unlike texts: a rule's line; the whole. -/
namespace Go.Proofs.YtnfchlkdppblfaaDoor
open Go.RowKit Go
theorem patC_ne {b : UInt8} (h : patC b = true) : b ≠ 10 ∧ b ≠ 32 ∧ b ≠ 47 ∧ b ≠ 60 ∧ b ≠ 94 := by
  unfold patC at h
  simp only [Bool.and_eq_true, bne_iff_ne, ne_eq] at h
  exact ⟨h.1, h.2.1, h.2.2.1, h.2.2.2.1, h.2.2.2.2⟩
/-- A right rule, its patterns' sets of four words. -/
structure RkP (r : Rl) (k : Nat) : Prop where
  rule : ruleB r k = true
  wx : WfT r.rx
  wt : WfT r.tr
theorem RkP.starts {r : Rl} {k : Nat} (h : RkP r k) : startsB r k = true := by
  have := h.rule; unfold ruleB at this; simp only [Bool.and_eq_true] at this; exact this.1
theorem RkP.act {r : Rl} {k : Nat} (h : RkP r k) : actB r k = true := by
  have := h.rule; unfold ruleB at this; simp only [Bool.and_eq_true] at this; exact this.2.1
theorem ok_right {t : Tr} (h : rightB t = true) (w : WfT t) : Ok t := ⟨right_fit h, w⟩
theorem RkP.eofs {r : Rl} {k : Nat} (h : RkP r k) (he : r.eof = true) : r.bol = false ∧ noneB r.rx = true ∧ noneB r.tr = true := by
  have := h.rule; unfold ruleB patB at this; simp only [Bool.and_eq_true] at this
  have q := this.2.2
  rw [if_pos he] at q
  simpa using q
theorem RkP.pats {r : Rl} {k : Nat} (h : RkP r k) (he : r.eof = false) : Ok r.rx ∧ (noneB r.tr = true ∨ Ok r.tr) := by
  have := h.rule; unfold ruleB patB at this; simp only [Bool.and_eq_true] at this
  have q := this.2.2
  rw [if_neg (by rw [he]; decide)] at q
  simp only [Bool.and_eq_true, Bool.or_eq_true] at q
  exact ⟨ok_right q.1 h.wx, q.2.imp id fun q => ok_right q h.wt⟩
def hdM (r : Rl) : List UInt8 := if r.bol = true then [94] ++ txt r.rx else txt r.rx
def tlM (r : Rl) : List UInt8 := if noneB r.tr = true then [] else 47 :: txt r.tr
theorem match_eof {r : Rl} (he : r.eof = true) : matchT r = [60, 60, 69, 79, 70, 62, 62] := by unfold matchT; rw [if_pos he]
theorem match_pat {r : Rl} (he : r.eof = false) : matchT r = hdM r ++ tlM r := by
  unfold matchT hdM tlM
  rw [if_neg (by rw [he]; decide)]
  split
  · simp
  · rfl
theorem hdM_no (r : Rl) : ∀ b ∈ hdM r, b ≠ 10 ∧ b ≠ 32 ∧ b ≠ 47 ∧ b ≠ 60 := fun b hb => by
  have key : ∀ b ∈ txt r.rx, b ≠ 10 ∧ b ≠ 32 ∧ b ≠ 47 ∧ b ≠ 60 := fun b hb => by
    have := patC_ne (txt_ap r.rx b hb); exact ⟨this.1, this.2.1, this.2.2.1, this.2.2.2.1⟩
  unfold hdM at hb
  split at hb
  · simp only [List.cons_append, List.nil_append, List.mem_cons] at hb
    rcases hb with rfl | hb
    · decide
    · exact key b hb
  · exact key b hb
theorem match_no (r : Rl) : ∀ b ∈ matchT r, b ≠ 10 ∧ b ≠ 32 := fun b hb => by
  cases he : r.eof
  · rw [match_pat he] at hb
    rcases List.mem_append.1 hb with q | q
    · have := hdM_no r b q; exact ⟨this.1, this.2.1⟩
    · unfold tlM at q
      split at q
      · cases q
      · simp only [List.mem_cons] at q
        rcases q with rfl | q
        · decide
        · have := patC_ne (txt_ap r.tr b q); exact ⟨this.1, this.2.1⟩
  · rw [match_eof he] at hb
    have : ([60, 60, 69, 79, 70, 62, 62] : List UInt8).all (fun b => b != 10 && b != 32) = true := by decide
    have := List.all_eq_true.1 this b hb
    simpa using this
theorem match_head {r : Rl} {k : Nat} (h : RkP r k) (he : r.eof = false) : ∃ c m, matchT r = c :: m ∧ c ≠ 60 := by
  rw [match_pat he]
  cases hh : hdM r with
  | nil =>
    exfalso
    unfold hdM at hh
    obtain ⟨c, m, hg, _⟩ := txt_good (h.pats he).1
    rw [hg] at hh
    split at hh <;> simp at hh
  | cons c m => exact ⟨c, m ++ tlM r, by simp, (hdM_no r c (by rw [hh]; simp)).2.2.2⟩
theorem match_hx {r : Rl} {k : Nat} (h : RkP r k) : HX (matchT r) := by
  cases he : r.eof
  · exact Or.inr (match_head h he)
  · exact Or.inl ⟨_, match_eof he⟩
theorem match_inj {r r' : Rl} {k k' : Nat} (h : RkP r k) (h' : RkP r' k') (e : matchT r = matchT r') : r.eof = r'.eof ∧ r.bol = r'.bol ∧ sameT r.rx r'.rx = true ∧ sameT r.tr r'.tr = true := by
  cases he : r.eof <;> cases he' : r'.eof
  · rw [match_pat he, match_pat he'] at e
    have hT : ∀ x : Rl, tlM x = [] ∨ ∃ X, tlM x = 47 :: X := fun x => by
      unfold tlM; split
      · exact Or.inl rfl
      · exact Or.inr ⟨_, rfl⟩
    obtain ⟨e1, e2⟩ := split2 (c := 47) (fun b hb => (hdM_no r b hb).2.2.1) (fun b hb => (hdM_no r' b hb).2.2.1) (hT r) (hT r') e
    have hx : r.bol = r'.bol ∧ txt r.rx = txt r'.rx := by
      unfold hdM at e1
      cases hb : r.bol <;> cases hb' : r'.bol
      · rw [hb, hb'] at e1; exact ⟨rfl, by simpa using e1⟩
      · rw [hb, hb'] at e1
        have : (94 : UInt8) ∈ txt r.rx := by
          have : txt r.rx = 94 :: txt r'.rx := by simpa using e1
          rw [this]; simp
        exact absurd rfl (patC_ne (txt_ap r.rx 94 this)).2.2.2.2
      · rw [hb, hb'] at e1
        have : (94 : UInt8) ∈ txt r'.rx := by
          have : 94 :: txt r.rx = txt r'.rx := by simpa using e1
          rw [← this]; simp
        exact absurd rfl (patC_ne (txt_ap r'.rx 94 this)).2.2.2.2
      · rw [hb, hb'] at e1; exact ⟨rfl, by simpa using e1⟩
    refine ⟨rfl, hx.1, txt_inj (h.pats he).1 (h'.pats he').1 hx.2, ?_⟩
    unfold tlM at e2
    cases hn : noneB r.tr <;> cases hn' : noneB r'.tr
    · rw [hn, hn'] at e2
      have ht := (h.pats he).2
      have ht' := (h'.pats he').2
      rw [hn] at ht
      rw [hn'] at ht'
      exact txt_inj (ht.resolve_left (by decide)) (ht'.resolve_left (by decide)) (by simpa using e2)
    · rw [hn, hn'] at e2; simp at e2
    · rw [hn, hn'] at e2; simp at e2
    · exact none_same hn hn'
  · obtain ⟨c, m, hc, hne⟩ := match_head h he
    rw [hc, match_eof he'] at e
    simp only [List.cons.injEq] at e
    exact absurd e.1 hne
  · obtain ⟨c, m, hc, hne⟩ := match_head h' he'
    rw [hc, match_eof he] at e
    simp only [List.cons.injEq] at e
    exact absurd e.1.symm hne
  · obtain ⟨a1, a2, a3⟩ := h.eofs he
    obtain ⟨b1, b2, b3⟩ := h'.eofs he'
    exact ⟨rfl, a1.trans b1.symm, none_same a2 b2, none_same a3 b3⟩
theorem st_no : ∀ a : Fin 9, (stS a.val).all (fun b => b != 10 && b != 32) = true := by decide
theorem st_no' {a : Nat} (ha : a < 9) : ∀ b ∈ stS a, b ≠ 10 ∧ b ≠ 32 := fun b hb => by
  have := List.all_eq_true.1 (st_no ⟨a, ha⟩) b hb
  simpa using this
theorem ac_no : ∀ a : Fin 5, (acS a.val).all (fun b => b != 10) = true := by decide
theorem rule_form (r : Rl) (c : Nat → Cn) : ruleT r c = (startsT r c ++ matchT r) ++ 32 :: actT r.act (nmL (c r.to.toNat)) := by unfold ruleT; simp
theorem rule_no {r : Rl} {k : Nat} (ex : Bool) (h : RkP r k) (hk : k ≤ 3) : ∀ b ∈ ruleT r (cnM ex), b ≠ 10 := fun b hb => by
  obtain ⟨a, ha, hs, _⟩ := starts_code ex h.starts hk
  obtain ⟨c, hc, hac, _⟩ := act_code ex h.act hk
  rw [rule_form, hs, hac] at hb
  rcases List.mem_append.1 hb with q | q
  · rcases List.mem_append.1 q with q | q
    · exact (st_no' ha b q).1
    · exact (match_no r b q).1
  · simp only [List.mem_cons] at q
    rcases q with rfl | q
    · decide
    · have := List.all_eq_true.1 (ac_no ⟨c, hc⟩) b q
      simpa using this
theorem rule_inj {r r' : Rl} {k k' : Nat} {ex ex' : Bool} (h : RkP r k) (h' : RkP r' k') (hk : k ≤ 3) (hk' : k' ≤ 3) (e : ruleT r (cnM ex) = ruleT r' (cnM ex')) : sameR r r' = true := by
  obtain ⟨a, ha, hs, h1, h2, h3⟩ := starts_code ex h.starts hk
  obtain ⟨a', ha', hs', h1', h2', h3'⟩ := starts_code ex' h'.starts hk'
  obtain ⟨c, hc, hac, c1, c2⟩ := act_code ex h.act hk
  obtain ⟨c', hc', hac', c1', c2'⟩ := act_code ex' h'.act hk'
  rw [rule_form, rule_form, hs, hs', hac, hac'] at e
  have no : ∀ {x : Nat} {q : Rl}, x < 9 → ∀ b ∈ stS x ++ matchT q, b ≠ 32 := fun {x q} hx b hb => by
    rcases List.mem_append.1 hb with p | p
    · exact (st_no' hx b p).2
    · exact (match_no q b p).2
  obtain ⟨e1, e2⟩ := split1 (no ha) (no ha') e
  obtain ⟨e3, e4⟩ := st_inj ha ha' (match_hx h) (match_hx h') e1
  have e5 : c = c' := by
    have := ac_inj ⟨c, hc⟩ ⟨c', hc'⟩ e2
    simpa using this
  subst e3 e5
  obtain ⟨m1, m2, m3, m4⟩ := match_inj h h' e4
  unfold sameR plainR sameN
  rw [m3, m4, m1, m2, h1, h1', c1, c1', c2, c2', decide_eq_true (h2.trans h2'.symm)]
  simp only [beq_self_eq_true, Bool.and_self, Bool.true_and, Bool.and_true]
  exact allTo_iff.2 fun i hi => decide_eq_true ((h3 i hi).trans (h3' i (by omega)).symm)
theorem nm_ex (ex ex' : Bool) (i : Nat) : (cnM ex i).nm = (cnM ex' i).nm := by
  unfold cnM
  split
  · rfl
  · split <;> rfl
theorem rule_same {r r' : Rl} {k k' : Nat} {ex ex' : Bool} (h : RkP r k) (h' : RkP r' k') (e : sameR r r' = true) : ruleT r (cnM ex) = ruleT r' (cnM ex') := by
  unfold sameR plainR sameN at e
  simp only [Bool.and_eq_true, beq_iff_eq, decide_eq_true_eq] at e
  obtain ⟨⟨e1, e2, e3, e4, e5⟩, ⟨e6, e7⟩, e8, e9⟩ := e
  have hcs : ∀ i, i < r.cn → r.cs i = r'.cs i := fun i hi => of_decide_eq_true (allTo_iff.1 e7 i hi)
  have hS : startsT r (cnM ex) = startsT r' (cnM ex') := by
    unfold startsT namesT
    rw [e1, ← e6]
    have : (List.range r.cn).map (fun i => (cnM ex (r.cs i).toNat).nm) = (List.range r.cn).map (fun i => (cnM ex' (r'.cs i).toNat).nm) := List.map_congr_left fun i hi => by rw [hcs i (List.mem_range.1 hi), nm_ex ex ex']
    rw [this]
  have hM : matchT r = matchT r' := by
    cases he : r.eof
    · have he' : r'.eof = false := by rw [← e3]; exact he
      obtain ⟨o1, o2⟩ := h.pats he
      obtain ⟨o1', o2'⟩ := h'.pats he'
      have hx := txt_same _ (Nat.le_refl _) o1 o1' e8
      rw [match_pat he, match_pat he']
      unfold hdM tlM
      rw [e2, hx]
      have hnn : noneB r.tr = noneB r'.tr := by
        cases hn' : noneB r'.tr
        · cases hn : noneB r.tr
          · rfl
          · have hs : sameT r'.tr r.tr = true := by
              obtain ⟨q1, q2, q3, q4, q5, q6⟩ := same_like e9
              rw [sameT_eq, Bool.and_eq_true]
              refine ⟨?_, allTo_iff.2 fun i hi => ?_⟩
              · simp only [likeB, Bool.and_eq_true, decide_eq_true_eq]
                simp only [eqS, Bool.and_eq_true, beq_iff_eq] at q2 ⊢
                exact ⟨q1.symm, ⟨q2.1.symm, q2.2.1.symm, q2.2.2.1.symm, q2.2.2.2.symm⟩, q3.symm, q4.symm, q5.symm⟩
              · have := noneB_n hn
                omega
            rw [none_of_same hs hn] at hn'
            cases hn'
        · exact none_of_same e9 hn'
      rw [hnn]
      cases hn' : noneB r'.tr
      · rw [hnn] at o2
        rw [hn'] at o2 o2'
        rw [txt_same _ (Nat.le_refl _) (o2.resolve_left (by decide)) (o2'.resolve_left (by decide)) e9]
      · rfl
    · have he' : r'.eof = true := by rw [← e3]; exact he
      rw [match_eof he, match_eof he']
  rw [rule_form, rule_form, hS, hM, e4, e5]
  unfold nmL
  rw [nm_ex ex ex']
/-! The lines ahead of the rules. -/
def hdL (k : Nat) (ex d : Bool) : List (List UInt8) := condLs (cnM ex) (k - 1) ++ dftLs d
set_option maxRecDepth 100000 in
theorem hdL_inj : ∀ (k k' : Fin 3) (ex ex' d d' : Bool), hdL (k.val + 1) ex d = hdL (k'.val + 1) ex' d' → k = k' ∧ (k.val ≠ 0 → ex = ex') ∧ d = d' := by decide +kernel
set_option maxRecDepth 100000 in
theorem hdL_no : ∀ (k : Fin 3) (ex d : Bool), (hdL (k.val + 1) ex d).all (fun x => x != [37, 37] && x.all fun b => b != 10) = true := by decide +kernel
set_option maxRecDepth 100000 in
theorem hdL_ex : ∀ (k : Fin 3) (ex ex' d : Bool), (k.val ≠ 0 → ex = ex') → hdL (k.val + 1) ex d = hdL (k.val + 1) ex' d := by decide +kernel
theorem lines_form (c k : Nat) (ex d : Bool) (l : Rs) : linesT ⟨csM c k ex, d, l⟩ = hdL k ex d ++ [37, 37] :: ruleLs l.r (cnM ex) l.n := by
  show condLs (cnM ex) (k - 1) ++ (dftLs d ++ ([[37, 37]] ++ ruleLs l.r (cnM ex) l.n)) = _
  unfold hdL
  simp
theorem map_get {α : Type} {f g : Nat → α} {n m : Nat} (h : (List.range n).map f = (List.range m).map g) : n = m ∧ ∀ i, i < n → f i = g i := by
  have hl : n = m := by have := congrArg List.length h; simpa using this
  subst hl
  exact ⟨rfl, fun i hi => List.map_inj_left.1 h i (List.mem_range.2 hi)⟩
/-- Two specifications that the law makes have the same text just if they are the same. -/
theorem spec_iff {c k : Nat} {ex d : Bool} {l : Rs} {c' k' : Nat} {ex' d' : Bool} {l' : Rs} (hk1 : 1 ≤ k) (hk3 : k ≤ 3) (hk1' : 1 ≤ k') (hk3' : k' ≤ 3) (h : ∀ i, i < l.n → RkP (l.r i) k) (h' : ∀ i, i < l'.n → RkP (l'.r i) k') :
    decide (textT ⟨csM c k ex, d, l⟩ = textT ⟨csM c' k' ex', d', l'⟩) = sameS ⟨csM c k ex, d, l⟩ ⟨csM c' k' ex', d', l'⟩ := by
  obtain ⟨q, rfl⟩ : ∃ q, k = q + 1 := ⟨k - 1, by omega⟩
  obtain ⟨q', rfl⟩ : ∃ q', k' = q' + 1 := ⟨k' - 1, by omega⟩
  have hall := hdL_no ⟨q, by omega⟩ ex d
  have hall' := hdL_no ⟨q', by omega⟩ ex' d'
  have no : ∀ {k : Nat} {ex d : Bool} {l : Rs}, k ≤ 3 → (hdL k ex d).all (fun x => x != [37, 37] && x.all fun b => b != 10) = true → (∀ i, i < l.n → RkP (l.r i) k) → ∀ x ∈ hdL k ex d ++ [37, 37] :: ruleLs l.r (cnM ex) l.n, ∀ b ∈ x, b ≠ 10 := fun {k ex d l} hk ha hr x hx b hb => by
    rcases List.mem_append.1 hx with p | p
    · have := List.all_eq_true.1 ha x p
      simp only [Bool.and_eq_true] at this
      have := List.all_eq_true.1 this.2 b hb
      simpa using this
    · simp only [List.mem_cons] at p
      rcases p with rfl | p
      · simp only [List.mem_cons, List.not_mem_nil, or_false] at hb
        rcases hb with rfl | rfl <;> decide
      · obtain ⟨i, hi, rfl⟩ := List.mem_map.1 p
        exact rule_no ex (hr i (List.mem_range.1 hi)) hk b hb
  have nx : ∀ {k : Nat} {ex d : Bool}, (hdL k ex d).all (fun x => x != [37, 37] && x.all fun b => b != 10) = true → ∀ x ∈ hdL k ex d, x ≠ [37, 37] := fun {k ex d} ha x hx => by
    have := List.all_eq_true.1 ha x hx
    simp only [Bool.and_eq_true, bne_iff_ne, ne_eq] at this
    exact this.1
  rw [Bool.eq_iff_iff, decide_eq_true_eq]
  unfold textT
  rw [lines_form, lines_form]
  constructor
  · intro e
    have e1 := flat_inj (no hk3 hall h) (no hk3' hall' h') e
    obtain ⟨e2, e3⟩ := split1 (nx hall) (nx hall') e1
    obtain ⟨e4, e5, e6⟩ := hdL_inj ⟨q, by omega⟩ ⟨q', by omega⟩ ex ex' d d' e2
    have e4' : q = q' := by simpa using e4
    subst e4' e6
    obtain ⟨e7, e8⟩ := map_get e3
    unfold sameS sameCs sameRs
    simp only [beq_self_eq_true, Bool.true_and, Bool.and_eq_true, decide_eq_true_eq]
    refine ⟨⟨rfl, allTo_iff.2 fun i hi => ?_⟩, e7, allTo_iff.2 fun i hi => rule_inj (h i hi) (h' i (by omega)) hk3 hk3' (e8 i hi)⟩
    have hi' : i < q + 1 := hi
    show eqC (cnM ex i) (cnM ex' i) = true
    unfold eqC
    rw [nm_ex ex ex' i]
    by_cases hq : q = 0
    · have : i = 0 := by omega
      subst this
      simp [cnM]
    · rw [e5 hq]; simp
  · intro e
    unfold sameS sameCs sameRs at e
    simp only [Bool.and_eq_true, beq_iff_eq, decide_eq_true_eq] at e
    obtain ⟨e1, ⟨e2, e3⟩, e4, e5⟩ := e
    have e2' : q + 1 = q' + 1 := e2
    have e2'' : q = q' := by omega
    subst e2'' e1
    have hex : q ≠ 0 → ex = ex' := fun hq => by
      have h1 : (1 : Nat) < (csM c (q + 1) ex).n := by show 1 < q + 1; omega
      have := allTo_iff.1 e3 1 h1
      have : eqC (cnM ex 1) (cnM ex' 1) = true := this
      unfold eqC at this
      simp only [Bool.and_eq_true, beq_iff_eq] at this
      exact this.2
    rw [hdL_ex ⟨q, by omega⟩ ex ex' d hex]
    have hrl : ruleLs l.r (cnM ex) l.n = ruleLs l'.r (cnM ex') l'.n := by
      unfold ruleLs
      rw [← e4]
      exact List.map_congr_left fun i hi => rule_same (h i (List.mem_range.1 hi)) (h' i (by have := List.mem_range.1 hi; omega)) (allTo_iff.1 e5 i (List.mem_range.1 hi))
    rw [hrl]
end Go.Proofs.YtnfchlkdppblfaaDoor
