/- For every text, list of bytes and bool the law ReadRight returns true and leaves them as they were (what is read is right, and printed and read again it is the same). Conditions: none of ours; the row's cells 'loops' and 'laid' (three tables and errors.errorType of Go's own library, tied to the program's text by the card). -/
import Derived.Test.YtnloepanbjgbaaaGreatDoorRd
import Derived.Test.YtnloepanbjgbaaaGreatDoorRh
import Derived.Test.YtnloepanbjgbaaaGreatDoorMo
import Derived.Test.YtnloepanbjgbaaaGreatDoorCards
import Derived.Test.YtnloepanbjgbaaaGreatDoorTie
import Derived.LaidMore
import Derived.ChangeMaps5
import Derived.LaidLaws
import Derived.LaidHandle
import Derived.Stop.Joined
import Derived.SevenTiedAt
namespace Go.Proofs.YtnloepanbjgbaaaGreatDoor
open Go.RowKit
theorem cnt_or (K : Int → Bool) (a b : Int) : ∀ j : Nat, cntR (fun x => K x || ofK a b x) j ≤ cntR K j + (if a < (j : Int) then 1 else 0)
  | 0 => by simp [cntR]
  | j + 1 => by
    have ih := cnt_or K a b j
    have e1 : (if a < ((j + 1 : Nat) : Int) then 1 else 0 : Nat) = if a ≤ (j : Int) then 1 else 0 := by
      by_cases h : a ≤ (j : Int)
      · rw [if_pos h, if_pos (by omega)]
      · rw [if_neg h, if_neg (by omega)]
    have e2 : (if a < (j : Int) then 1 else 0 : Nat) ≤ if a ≤ (j : Int) then 1 else 0 := by split <;> split <;> omega
    rw [e1]
    simp only [cntR]
    generalize cntR (fun x => K x || ofK a b x) j = X at ih ⊢
    generalize cntR K j = Y at ih ⊢
    have o1 : ofK a b (j : Int) = true → a ≤ (j : Int) ∧ (j : Int) ≤ b := fun h => by simpa [ofK] using h
    have o2 : a ≤ (j : Int) - 1 → (j : Int) - 1 ≤ b → ofK a b ((j : Int) - 1) = true := fun h h' => by simp [ofK]; omega
    generalize hu : (if a < (j : Int) then 1 else 0 : Nat) = u at ih e2
    generalize hv : (if a ≤ (j : Int) then 1 else 0 : Nat) = v at e2 ⊢
    have hv1 : ofK a b (j : Int) = true → v = 1 := fun h => by rw [← hv, if_pos (o1 h).1]
    have hu0 : ofK a b (j : Int) = true → ofK a b ((j : Int) - 1) = false → u = 0 := fun h h' => by
      rw [← hu, if_neg]
      intro hlt
      have := o2 (by omega) (by have := (o1 h).2; omega)
      rw [h'] at this; cases this
    clear hu hv e1 o1 o2
    rcases Bool.eq_false_or_eq_true (K (j : Int)) with hp | hp <;> rcases Bool.eq_false_or_eq_true (K ((j : Int) - 1)) with hq | hq <;> rcases Bool.eq_false_or_eq_true (ofK a b (j : Int)) with hr | hr <;> rcases Bool.eq_false_or_eq_true (ofK a b ((j : Int) - 1)) with hs | hs <;> simp only [hp, hq, hr, hs] at hv1 hu0 ⊢ <;> simp at hv1 hu0 ⊢ <;> omega
theorem cnt_not (K : Int → Bool) (h0 : K (-1) = false) : ∀ j : Nat, cntR (fun x => decide (0 ≤ x) && !K x) j + (if K ((j : Int) - 1) = true then 1 else 0) ≤ cntR K j + 1
  | 0 => by simp [cntR, h0]
  | j + 1 => by
    have ih := cnt_not K h0 j
    have e : ((j + 1 : Nat) : Int) - 1 = (j : Int) := by omega
    rw [e]
    simp only [cntR]
    have hj : decide (0 ≤ (j : Int)) = true := by simp
    simp only [hj, Bool.true_and]
    have hz : decide (0 ≤ (j : Int) - 1) = false → cntR (fun x => decide (0 ≤ x) && !K x) j = 0 := fun h => by
      have : j = 0 := by simp at h; omega
      subst this; rfl
    generalize cntR (fun x => decide (0 ≤ x) && !K x) j = X at ih hz ⊢
    generalize cntR K j = Y at ih ⊢
    rcases Bool.eq_false_or_eq_true (K (j : Int)) with hp | hp <;> rcases Bool.eq_false_or_eq_true (K ((j : Int) - 1)) with hq | hq <;> rcases Bool.eq_false_or_eq_true (decide (0 ≤ (j : Int) - 1)) with hr | hr <;> simp only [hp, hq, hr] at ih hz ⊢ <;> simp at ih hz ⊢ <;> omega
theorem runs_or {f : Nat → Int} (hf : Wf f) (a b : Int) : runsN (orS f (byK (ofK a b))) ≤ runsN f + 1 := by
  have h : cntR (hasI (orS f (byK (ofK a b)))) 256 = cntR (fun x => hasI f x || ofK (max a 0) b x) 256 := (flatR_congr 256 fun x h0 h1 => by
    rw [hasI_or hf (wf_byK _)]
    by_cases q : 0 ≤ x
    · rw [hasI_byK _ q (by omega)]
      have : ofK a b x = ofK (max a 0) b x := by rw [Bool.eq_iff_iff]; simp only [ofK, Bool.and_eq_true, decide_eq_true_eq]; omega
      rw [this]
    · rw [hasI_out (f := byK (ofK a b)) (by omega)]
      have : ofK (max a 0) b x = false := by simp [ofK]; omega
      rw [this]).2
  show cntR _ 256 ≤ _
  rw [h]
  have := cnt_or (hasI f) (max a 0) b 256
  have e : (if max a 0 < ((256 : Nat) : Int) then 1 else 0 : Nat) ≤ 1 := by split <;> omega
  show _ ≤ cntR (hasI f) 256 + 1
  omega
theorem runs_not {f : Nat → Int} (hf : Wf f) : runsN (notS f) ≤ runsN f + 1 := by
  have h : cntR (hasI (notS f)) 256 = cntR (fun x => decide (0 ≤ x) && !hasI f x) 256 := (flatR_congr 256 fun x h0 h1 => by
    by_cases q : 0 ≤ x
    · rw [hasI_not hf q (by omega)]; simp [q]
    · rw [hasI_out (f := notS f) (by omega)]; simp [q]).2
  show cntR _ 256 ≤ _
  rw [h]
  have := cnt_not (hasI f) (hasI_out (by omega)) 256
  show _ ≤ cntR (hasI f) 256 + 1
  omega
theorem runs_0 : runsN (fun _ => 0) = 0 := by
  have h : ∀ j, cntR (hasI z0) j = 0 := fun j => by
    induction j with
    | zero => rfl
    | succ j ih => rw [cntR, if_neg (by rw [hasI_z0]; simp), ih]
  exact h 256
theorem setT_le (f : Nat → Int) : (setT f).length ≤ 9 * runsN f + 4 := by
  unfold setT
  split
  · have := byteT_len (lo (runsS f) 0); omega
  · have h1 := catTo_len (runT_len (runsS f)) (runsN f)
    simp only [List.length_append, List.length_cons, List.length_nil]
    omega
end Go.Proofs.YtnloepanbjgbaaaGreatDoor
/- How long the text of what is read may be, through the whole reader. -/
namespace Go.Proofs.YtnloepanbjgbaaaGreatDoor
open Go.RowKit
def tl (t : Tr) : Nat := (txt t).length
/-- How many sets are in a pattern. -/
def lvs : Tr → Nat
  | .node k _ _ _ _ n _ kid => if k = 2 then 1 else sumTo (fun i => lvs (kid i)) n
  | .nul => 0
theorem lvs_eq (t : Tr) : lvs t = if t.k = 2 then 1 else sumTo (fun i => lvs (t.kid i)) t.n := by
  cases t with
  | node => rfl
  | nul => rfl
theorem sumTo_shift (f : Nat → Nat) : ∀ n, sumTo f (n + 1) = f 0 + sumTo (fun i => f (i + 1)) n
  | 0 => by simp [sumTo]
  | n + 1 => by rw [sumTo, sumTo_shift f n, sumTo]; omega
theorem sumTo_list (g : Tr → Nat) : ∀ L : List Tr, sumTo (fun i => g (L.getD i .nul)) L.length = (L.map g).sum
  | [] => rfl
  | t :: L => by
    rw [List.length_cons, sumTo_shift, List.map_cons, List.sum_cons, ← sumTo_list g L]
    rfl
theorem sum_kids (g : Tr → Nat) (kid : Nat → Tr) : ∀ n, ((kidsL kid n).map g).sum = sumTo (fun i => g (kid i)) n
  | 0 => rfl
  | n + 1 => by rw [kidsL_succ, List.map_append, List.sum_append, sum_kids g kid n]; simp [sumTo]
theorem sum_flat (f : Tr → List Tr) (g : Tr → Nat) : ∀ L : List Tr, ((L.flatMap f).map g).sum = (L.map fun t => ((f t).map g).sum).sum
  | [] => rfl
  | t :: L => by rw [List.flatMap_cons, List.map_append, List.sum_append, sum_flat f g L]; simp
theorem sum_le {f g : Tr → Nat} : ∀ L : List Tr, (∀ t ∈ L, f t ≤ g t) → (L.map f).sum ≤ (L.map g).sum
  | [], _ => Nat.le_refl _
  | t :: L, h => by
    have h1 := h t (by simp)
    have h2 := sum_le L fun u hu => h u (by simp [hu])
    simp only [List.map_cons, List.sum_cons]
    omega
theorem sum_eq {f g : Tr → Nat} : ∀ L : List Tr, (∀ t ∈ L, f t = g t) → (L.map f).sum = (L.map g).sum
  | [], _ => rfl
  | t :: L, h => by
    have h1 := h t (by simp)
    have h2 := sum_eq L fun u hu => h u (by simp [hu])
    simp only [List.map_cons, List.sum_cons]
    omega
def e3 (u : Tr) : Nat := tl u + if u.k = 4 then 2 else 0
theorem piece3 (kid : Nat → Tr) (i : Nat) : (pieceT 3 kid i).length = e3 (kid i) := by
  unfold pieceT encT enclB e3 tl
  rw [if_neg (show ¬ (0 < i ∧ (3 : Int) = 4) by omega), if_neg (show ¬ (3 : Int) = 5 by omega), if_pos (show (3 : Int) = 3 from rfl)]
  by_cases h : (kid i).k = 4
  · simp [h]
  · simp [h]
theorem piece4 (kid : Nat → Tr) (i : Nat) : (pieceT 4 kid i).length = (if 0 < i then 1 else 0) + tl (kid i) := by
  unfold pieceT encT enclB tl
  by_cases h : 0 < i
  · simp [h]; omega
  · simp [h]
theorem txt_34 {t : Tr} (h : t.k = 3 ∨ t.k = 4) : txt t = catTo (pieceT t.k t.kid) t.n := by
  cases t with
  | nul => have h' : (0 : Int) = 3 ∨ (0 : Int) = 4 := h; omega
  | node k s lo hi a n cap kid =>
    have h' : k = 3 ∨ k = 4 := h
    rw [txt_many (by omega) (by omega), if_neg (by omega), List.append_nil]
    rfl
theorem tl_3 {t : Tr} (h : t.k = 3) : tl t = sumTo (fun i => e3 (t.kid i)) t.n := by
  unfold tl
  rw [txt_34 (Or.inl h), catTo_sum, h]
  exact sumTo_congr fun i _ => piece3 _ _
theorem sum_sep (g : Nat → Nat) : ∀ n, sumTo (fun i => (if 0 < i then 1 else 0) + g i) (n + 1) + 1 = sumTo (fun i => g i + 1) (n + 1)
  | 0 => by simp [sumTo]
  | n + 1 => by
    have := sum_sep g n
    rw [sumTo, sumTo.eq_2 (fun i => g i + 1) (n + 1), ← this]
    rw [if_pos (by omega)]
    omega
theorem tl_4 {t : Tr} (h : t.k = 4) : sumTo (fun i => tl (t.kid i) + 1) t.n ≤ tl t + 1 ∧ (0 < t.n → tl t + 1 = sumTo (fun i => tl (t.kid i) + 1) t.n) := by
  have e : tl t = sumTo (fun i => (if 0 < i then 1 else 0) + tl (t.kid i)) t.n := by
    rw [show tl t = (txt t).length from rfl, txt_34 (Or.inr h), catTo_sum, h]
    exact sumTo_congr fun i _ => piece4 _ _
  cases hn : t.n with
  | zero => exact ⟨by simp [sumTo], fun q => absurd q (Nat.lt_irrefl _)⟩
  | succ n =>
    rw [hn] at e
    have := sum_sep (fun i => tl (t.kid i)) n
    rw [e]
    exact ⟨by omega, fun _ => this⟩
theorem part3 (t : Tr) : ((partL 3 t).map e3).sum ≤ tl t + 2 := by
  unfold partL
  split
  · rename_i h
    rw [sum_kids, ← tl_3 h]; omega
  · simp [e3]; split <;> omega
theorem part4 (t : Tr) : ((partL 4 t).map fun u => tl u + 1).sum ≤ tl t + 1 := by
  unfold partL
  split
  · rename_i h
    rw [sum_kids]; exact (tl_4 h).1
  · simp
theorem partl {k : Int} (hk : k = 3 ∨ k = 4) (t : Tr) : ((partL k t).map lvs).sum = lvs t := by
  unfold partL
  split
  · rename_i h
    rw [sum_kids, lvs_eq t, if_neg (by omega)]
  · simp
theorem lvs_row {k : Int} (hk : k = 3 ∨ k = 4) (a : Option Addr) (cap : Nat) (L : List Tr) : lvs (rowT k a cap L) = (L.map lvs).sum := by
  rw [← sumTo_list, lvs_eq, if_neg (show ¬ (rowT k a cap L).k = 2 by show ¬ k = 2; omega)]
  rfl
theorem lvs_join {k : Int} (hk : k = 3 ∨ k = 4) : ∀ L : List Tr, lvs (joinP k L) = (L.map lvs).sum
  | [] => by show lvs (lfT 1 z0) = 0; rfl
  | [t] => by simp [joinP]
  | t :: u :: L => by
    show lvs (rowT k none 0 ((t :: u :: L).flatMap (partL k))) = _
    rw [lvs_row hk, sum_flat]
    exact sum_eq _ fun t _ => partl hk t
theorem tl_join3 : ∀ L : List Tr, tl (joinP 3 L) ≤ (L.map fun t => tl t + 2).sum + 2
  | [] => by show tl (lfT 1 z0) ≤ 2; exact Nat.le_refl _
  | [t] => by simp [joinP]; omega
  | t :: u :: L => by
    have e : tl (rowT 3 none 0 ((t :: u :: L).flatMap (partL 3))) = (((t :: u :: L).flatMap (partL 3)).map e3).sum := by
      rw [tl_3 rfl, ← sumTo_list]; rfl
    show tl (rowT 3 none 0 ((t :: u :: L).flatMap (partL 3))) ≤ _
    rw [e, sum_flat]
    have := sum_le (f := fun t => ((partL 3 t).map e3).sum) (g := fun t => tl t + 2) (t :: u :: L) fun t _ => part3 t
    omega
theorem tl_join4 : ∀ L : List Tr, L ≠ [] → tl (joinP 4 L) + 1 ≤ (L.map fun t => tl t + 1).sum
  | [], h => absurd rfl h
  | [t], _ => by simp [joinP]
  | t :: u :: L, _ => by
    have h := sum_le (f := fun t => ((partL 4 t).map fun u => tl u + 1).sum) (g := fun t => tl t + 1) (t :: u :: L) fun t _ => part4 t
    show tl (rowT 4 none 0 ((t :: u :: L).flatMap (partL 4))) + 1 ≤ _
    rcases Nat.eq_zero_or_pos ((t :: u :: L).flatMap (partL 4)).length with q | q
    · have e : tl (rowT 4 none 0 ((t :: u :: L).flatMap (partL 4))) = 0 := by
        rw [show tl _ = (txt _).length from rfl, txt_34 (Or.inr rfl), catTo_sum]
        show sumTo _ ((t :: u :: L).flatMap (partL 4)).length = 0
        rw [q]; rfl
      rw [e]
      simp only [List.map_cons, List.sum_cons]
      omega
    · refine Nat.le_trans ?_ h
      rw [← sum_flat, ← sumTo_list (fun u => tl u + 1)]
      exact Nat.le_of_eq ((tl_4 (t := rowT 4 none 0 ((t :: u :: L).flatMap (partL 4))) rfl).2 q)
/-- What is read has a text that is not much longer than its own. -/
def Lb (F : Nat → Nat → Rs (Tr × Nat)) : Prop := ∀ i c T j, F i c = .ok T j → i < j ∧ tl T.1 + 9 ≤ 9 * (j - i) + 20 * lvs T.1
theorem tl_rep (lo hi : Int) (t : Tr) : tl (repN lo hi t) ≤ tl t + 9 ∧ lvs (repN lo hi t) = lvs t := by
  constructor
  · have h1 := encT_len (txt t) (enclB t.k 5)
    have h2 := countsT_len lo hi
    show (txt (repN lo hi t)).length ≤ _
    unfold repN
    rw [txt_many (by omega) (by omega), List.length_append, catTo_sum, if_pos rfl]
    have e : sumTo (fun i => (pieceT 5 (fun _ => t) i).length) 1 = (encT (txt t) (enclB t.k 5)).length := by
      simp [sumTo, pieceT]
    rw [e]
    unfold tl
    omega
  · rw [lvs_eq, if_neg (show ¬ (repN lo hi t).k = 2 by show ¬ (5 : Int) = 2; omega)]
    show 0 + lvs t = lvs t
    omega
theorem lb_quants {N : Nat → Int} : ∀ {n : Nat} {t T : Tr} {i j : Nat}, quantsG N n t i = .ok T j → i ≤ j ∧ tl T ≤ tl t + 9 * (j - i) ∧ lvs T = lvs t
  | 0, _, _, _, _, h => by cases h
  | n + 1, t, T, i, j, h => by
    rw [quantsG] at h
    split at h
    · split at h
      · cases h
      · rename_i a k hk
        have h1 := quantP_lt hk
        obtain ⟨h2, h3, h4⟩ := lb_quants h
        obtain ⟨h5, h6⟩ := tl_rep a.1 a.2 t
        exact ⟨by omega, by omega, by omega⟩
    · cases h; exact ⟨Nat.le_refl _, by omega, rfl⟩
theorem lb_piece {A : Nat → Nat → Rs (Tr × Nat)} (hA : Lb A) (S : ByteArray) : Lb (pieceG A S) := by
  intro i c T j h
  unfold pieceG at h
  split at h
  · cases h
  · rename_i T1 j1 h1
    obtain ⟨g1, g2⟩ := hA i c T1 j1 h1
    split at h
    · cases h
    · rename_i T2 j2 h2
      cases h
      obtain ⟨k1, k2, k3⟩ := lb_quants h2
      exact ⟨by omega, by show tl T2 + 9 ≤ _ + 20 * lvs T2; omega⟩
theorem lb_seq {P : Nat → Nat → Rs (Tr × Nat)} (hP : Lb P) {N : Nat → Int} : ∀ {n : Nat} {L : List Tr} {i c j : Nat} {T : Tr × Nat}, seqG P N n L i c = .ok T j → i ≤ j ∧ tl T.1 + 20 * (L.map lvs).sum ≤ (L.map fun t => tl t + 2).sum + 2 + 9 * (j - i) + 20 * lvs T.1
  | 0, _, _, _, _, _, h => by cases h
  | n + 1, L, i, c, j, T, h => by
    rw [seqG] at h
    split at h
    · cases h
      have h1 := tl_join3 L
      have h2 := lvs_join (Or.inl rfl) L
      exact ⟨Nat.le_refl _, by show tl (joinP 3 L) + _ ≤ _ + 20 * lvs (joinP 3 L); rw [h2]; omega⟩
    · split at h
      · cases h
      · rename_i T1 j1 h1
        obtain ⟨g1, g2⟩ := hP i c T1 j1 h1
        obtain ⟨k1, k2⟩ := lb_seq hP h
        simp only [List.map_append, List.sum_append, List.map_cons, List.map_nil, List.sum_cons, List.sum_nil] at k2
        exact ⟨by omega, by omega⟩
theorem lb_choice {Q : Nat → Nat → Rs (Tr × Nat)} (hQ : ∀ i c T j, Q i c = .ok T j → i ≤ j ∧ tl T.1 ≤ 2 + 9 * (j - i) + 20 * lvs T.1) {N : Nat → Int} : ∀ {n : Nat} {L : List Tr} {i c j : Nat} {T : Tr × Nat}, choiceG Q N n L i c = .ok T j → i ≤ j ∧ tl T.1 + 20 * (L.map lvs).sum ≤ (L.map fun t => tl t + 1).sum + 2 + 9 * (j - i) + 20 * lvs T.1
  | 0, _, _, _, _, _, h => by cases h
  | n + 1, L, i, c, j, T, h => by
    rw [choiceG] at h
    split at h
    · cases h
    · rename_i T1 j1 h1
      obtain ⟨g1, g2⟩ := hQ i c T1 j1 h1
      split at h
      · obtain ⟨k1, k2⟩ := lb_choice hQ h
        simp only [List.map_append, List.sum_append, List.map_cons, List.map_nil, List.sum_cons, List.sum_nil] at k2
        exact ⟨by omega, by omega⟩
      · cases h
        have h2 := tl_join4 (L ++ [T1.1]) (by simp)
        have h3 := lvs_join (k := 4) (Or.inr rfl) (L ++ [T1.1])
        simp only [List.map_append, List.sum_append, List.map_cons, List.map_nil, List.sum_cons, List.sum_nil] at h2 h3
        exact ⟨g1, by show tl (joinP 4 (L ++ [T1.1])) + _ ≤ _ + 20 * lvs (joinP 4 (L ++ [T1.1])); rw [h3]; omega⟩
theorem item_form {N : Nat → Int} {i j : Nat} {t : Nat → Int} (h : itemP N i = .ok t j) : ∃ a b, t = byK (ofK a b) := by
  unfold itemP at h
  split at h
  · cases h
  · split at h
    · split at h
      · cases h
      · split at h
        · cases h
        · cases h; exact ⟨_, _, rfl⟩
    · cases h; exact ⟨_, _, rfl⟩
theorem items_runs {N : Nat → Int} : ∀ {n : Nat} {s f : Nat → Int} {i j : Nat}, Wf s → itemsP N n s i = .ok f j → Wf f ∧ runsN f + i ≤ runsN s + j
  | 0, _, _, _, _, _, h => by cases h
  | n + 1, s, f, i, j, hs, h => by
    rw [itemsP] at h
    split at h
    · cases h
    · rename_i t k hk
      have h1 := itemP_lt hk
      obtain ⟨a, b, rfl⟩ := item_form hk
      have h2 := runs_or hs a b
      have h3 := wf_or hs (wf_byK (ofK a b))
      split at h
      · cases h; exact ⟨h3, by omega⟩
      · obtain ⟨h4, h5⟩ := items_runs h3 h
        exact ⟨h4, by omega⟩
theorem class_len {N : Nat → Int} {n : Nat} {i j : Nat} {f : Nat → Int} (h : classP N n false i = .ok f j) : i < j ∧ (setT f).length + 9 ≤ 9 * (j - i) + 20 := by
  have h0 := classP_lt h
  refine ⟨h0, ?_⟩
  unfold classP at h
  split at h
  · cases h
  · rename_i s k hk
    obtain ⟨h1, h2⟩ := items_runs (fun i _ => by simp) hk
    rw [runs_0] at h2
    have hF : foldB false s = s := by simp [foldB]
    rw [hF] at h
    have h4 := setT_le s
    have h5 := setT_le (notS s)
    have h6 := runs_not h1
    by_cases c : N (i + 1) = 94
    · simp only [c, if_true] at h h2
      split at h
      · cases h
      · cases h; omega
    · simp only [c, if_false] at h h2
      split at h
      · cases h
      · cases h; omega
theorem tl_lf2 (s : Nat → Int) : tl (lfT 2 s) = (setT s).length ∧ lvs (lfT 2 s) = 1 := ⟨by
  show (txt (lfT 2 s)).length = _
  unfold lfT
  rw [txt, if_neg (by omega), if_pos rfl], rfl⟩
theorem one_runs (b : Int) : runsN (byK (ofK b b)) ≤ 1 := by
  have h := runs_or (f := fun _ => 0) (fun i _ => by simp) b b
  rw [runs_0] at h
  have e : hasI (orS (fun _ => 0) (byK (ofK b b))) = hasI (byK (ofK b b)) := funext fun x => by
    rw [hasI_or (fun i _ => by simp) (wf_byK _), hasI_z0]; simp
  have e2 : runsN (orS (fun _ => 0) (byK (ofK b b))) = runsN (byK (ofK b b)) := by unfold runsN; rw [e]
  omega
/-- The definitions' texts are short. -/
def DfS (D : Df) (n : Nat) : Prop := ∀ m, m < n → tl (D.dt m) + 9 ≤ 27 + 20 * lvs (D.dt m)
theorem lb_atom {G : Nat → Nat → Rs (Tr × Nat)} (hG : Lb G) {S : ByteArray} {D : Df} {n : Nat} (hD : DfS D n) : Lb (atomG G S D n false) := by
  intro i c T j h
  unfold atomG at h
  split at h
  · exact hG i c T j h
  · split at h
    · unfold leafR at h
      split at h
      · rename_i s k hk
        cases h
        obtain ⟨h1, h2⟩ := class_len hk
        obtain ⟨h3, h4⟩ := tl_lf2 s
        exact ⟨h1, by show tl (lfT 2 s) + 9 ≤ _ + 20 * lvs (lfT 2 s); omega⟩
      · cases h
    · split at h
      · unfold definedP at h
        split at h
        · cases h
        · rename_i hn
          have hz : 1 ≤ (nmAt S (i + 1)).size := by
            have : nameB (nmAt S (i + 1)) = true := by simpa using hn
            unfold nameB at this
            simp only [Bool.and_eq_true, decide_eq_true_eq] at this
            exact this.1
          split at h
          · split at h
            · rename_i t ht
              cases h
              obtain ⟨m, hm, rfl⟩ := findD_some ht
              have h1 := hD m (by omega)
              refine ⟨by omega, ?_⟩
              show tl (useT c (D.dt m)).1 + 9 ≤ _ + 20 * lvs (useT c (D.dt m)).1
              unfold useT
              split
              · show tl (lfT 1 z0) + 9 ≤ _
                have : tl (lfT 1 z0) = 2 := rfl
                omega
              · show tl (D.dt m) + 9 ≤ _ + 20 * lvs (D.dt m)
                omega
            · cases h
          · cases h
      · split at h
        · cases h
          obtain ⟨h3, h4⟩ := tl_lf2 (notS (byK (ofK 10 10)))
          have h5 := setT_few (f := notS (byK (ofK 10 10))) (by have := runs_not (wf_byK (ofK 10 10)); have := one_runs 10; omega)
          exact ⟨by omega, by show tl (lfT 2 (notS (byK (ofK 10 10)))) + 9 ≤ _ + 20 * lvs (lfT 2 (notS (byK (ofK 10 10)))); omega⟩
        · unfold charR at h
          split at h
          · rename_i b k hk
            cases h
            have h1 := oneP_lt hk
            have hF : foldB false (byK (ofK b b)) = byK (ofK b b) := by simp [foldB]
            obtain ⟨h3, h4⟩ := tl_lf2 (byK (ofK b b))
            have h5 := setT_le (byK (ofK b b))
            have h6 := one_runs b
            exact ⟨h1, by show tl (lfT 2 (foldB false (byK (ofK b b)))) + 9 ≤ _ + 20 * lvs (lfT 2 (foldB false (byK (ofK b b)))); rw [hF]; omega⟩
          · cases h
theorem lb_seqF {G : Nat → Nat → Rs (Tr × Nat)} (hG : Lb G) (S : ByteArray) {D : Df} {n : Nat} (hD : DfS D n) : ∀ i c T j, seqF G S D n false i c = .ok T j → i ≤ j ∧ tl T.1 ≤ 2 + 9 * (j - i) + 20 * lvs T.1 := fun i c T j h => by
  have := lb_seq (lb_piece (lb_atom hG (S := S) hD) S) (L := []) h
  simpa using this
theorem lb_choF {G : Nat → Nat → Rs (Tr × Nat)} (hG : Lb G) (S : ByteArray) {D : Df} {n : Nat} (hD : DfS D n) : ∀ i c T j, choF G S D n false i c = .ok T j → i ≤ j ∧ tl T.1 ≤ 2 + 9 * (j - i) + 20 * lvs T.1 := fun i c T j h => by
  have := lb_choice (lb_seqF hG S hD) (L := []) h
  simpa using this
theorem lb_grp (S : ByteArray) {D : Df} {n : Nat} (hD : DfS D n) : ∀ d, Lb (grpD S D n false d)
  | 0 => fun i c T j h => by cases h
  | d + 1 => fun i c T j h => by
    rw [grpD] at h
    unfold grpG at h
    split at h
    · cases h
    · rename_i T1 j1 h1
      obtain ⟨g1, g2⟩ := lb_choF (lb_grp S hD d) S hD _ _ _ _ h1
      split at h
      · cases h; exact ⟨by omega, by omega⟩
      · cases h
theorem lvs_sz : ∀ (t : Tr) {lv : Nat}, okT t lv = true → lvs t ≤ sz t
  | .node k s lo hi a n cap kid, lv, h => by
    obtain ⟨hf, _, hkid⟩ := okT_kid h
    have hs := sumTo_le n fun i hi => lvs_sz (kid i) (hkid i hi)
    rw [lvs_eq, sz_eq]
    have hs' : sumTo (fun i => lvs (Tr.kid (.node k s lo hi a n cap kid) i)) (Tr.n (.node k s lo hi a n cap kid)) ≤ sumTo (fun i => sz (Tr.kid (.node k s lo hi a n cap kid) i)) (Tr.n (.node k s lo hi a n cap kid)) := hs
    generalize Tr.node k s lo hi a n cap kid = t at *
    unfold ownT timT
    rcases fits_cases hf with ⟨q, z⟩ | ⟨q, z⟩ | ⟨q, z⟩ | ⟨q, z, _⟩
    · rw [z]; simp [q, sumTo]
    · simp [q]
    · rw [if_neg (by omega), if_neg (by omega), if_pos q]; omega
    · rw [if_neg (by omega), if_neg (by omega), if_neg (by omega), if_pos q]
      have : 1 ≤ repM t.lo t.hi := by unfold repM; omega
      refine Nat.le_trans hs' (Nat.le_trans (Nat.le_mul_of_pos_left _ this) ?_)
      omega
  | .nul, lv, h => Nat.zero_le _
theorem in_of_nx {S : ByteArray} {i : Nat} {x : Int} (h : nx S i = x) (hx : x ≠ -1) : i < S.size := by
  rcases Nat.lt_or_ge i S.size with q | q
  · exact q
  · exact absurd ((nx_out (by omega)).symm.trans h).symm hx
theorem in_of_not {S : ByteArray} {i : Nat} (h : nx S i ≠ -1) : i < S.size := in_of_nx rfl h
theorem le_hex {S : ByteArray} {i j : Nat} {a : Int} (h : hexP (nx S) i = .ok a j) : j ≤ S.size := by
  unfold hexP at h
  split at h
  · cases h
  · split at h
    · cases h
    · rename_i q
      have : i + 1 < S.size := in_of_not fun e => q (by rw [e]; rfl)
      cases h; omega
theorem le_esc {S : ByteArray} {i j : Nat} {a : Int} (h : escP (nx S) i = .ok a j) : j ≤ S.size := by
  unfold escP at h
  split at h
  · exact le_hex h
  · split at h
    · rename_i q; have := in_of_nx q (by omega); cases h; omega
    · split at h
      · rename_i q; have := in_of_nx q (by omega); cases h; omega
      · split at h
        · rename_i q
          have : i < S.size := in_of_not fun e => by have := q.1; rw [e] at this; cases this
          cases h; omega
        · cases h
theorem le_one {S : ByteArray} {cls : Bool} {i j : Nat} {a : Int} (h : oneP (nx S) cls i = .ok a j) : j ≤ S.size := by
  unfold oneP at h
  split at h
  · exact le_esc h
  · split at h
    · rename_i q
      have : i < S.size := in_of_not fun e => by have := q.1; rw [e] at this; cases this
      cases h; omega
    · cases h
theorem le_items {S : ByteArray} : ∀ {n : Nat} {s f : Nat → Int} {i j : Nat}, itemsP (nx S) n s i = .ok f j → j ≤ S.size
  | 0, _, _, _, _, h => by cases h
  | n + 1, s, f, i, j, h => by
    rw [itemsP] at h
    split at h
    · cases h
    · split at h
      · rename_i q; have := in_of_nx q (by omega); cases h; omega
      · exact le_items h
theorem le_class {S : ByteArray} {n : Nat} {fold : Bool} {i j : Nat} {f : Nat → Int} (h : classP (nx S) n fold i = .ok f j) : j ≤ S.size := by
  unfold classP at h
  split at h
  · cases h
  · rename_i s k hk
    have h1 := le_items hk
    generalize (if nx S (i + 1) = 94 then notS (foldB fold s) else foldB fold s) = F at h
    split at h
    · cases h
    · cases h; exact h1
def Le (S : ByteArray) (F : Nat → Nat → Rs (Tr × Nat)) : Prop := ∀ i c T j, F i c = .ok T j → j ≤ S.size
theorem le_atom {G : Nat → Nat → Rs (Tr × Nat)} {S : ByteArray} (hG : Le S G) (D : Df) (n : Nat) (fold : Bool) : Le S (atomG G S D n fold) := by
  intro i c T j h
  unfold atomG at h
  split at h
  · exact hG i c T j h
  · split at h
    · unfold leafR at h
      split at h
      · rename_i hk; cases h; exact le_class hk
      · cases h
    · split at h
      · unfold definedP at h
        split at h
        · cases h
        · split at h
          · rename_i q
            have := in_of_nx q (by omega)
            split at h
            · cases h; omega
            · cases h
          · cases h
      · split at h
        · rename_i q; have := in_of_nx q (by omega); cases h; omega
        · unfold charR at h
          split at h
          · rename_i hk; cases h; exact le_one hk
          · cases h
theorem le_braces {S : ByteArray} {i j : Nat} {a : Int × Int} (h : bracesP (nx S) i = .ok a j) : j ≤ S.size := by
  unfold bracesP at h
  split at h
  · cases h
  · split at h
    · cases h
    · split at h
      · rename_i q
        have := in_of_nx q (by omega)
        split at h
        · cases h; omega
        · cases h
      · cases h
theorem le_quants {S : ByteArray} : ∀ {n : Nat} {t T : Tr} {i j : Nat}, i ≤ S.size → quantsG (nx S) n t i = .ok T j → j ≤ S.size
  | 0, _, _, _, _, _, h => by cases h
  | n + 1, t, T, i, j, hi, h => by
    rw [quantsG] at h
    split at h
    · rename_i q
      have hin : i < S.size := in_of_not fun e => by unfold atQP at q; rw [e] at q; simp at q
      split at h
      · cases h
      · rename_i a k hk
        have h1 : k ≤ S.size := by
          unfold quantP at hk
          split at hk
          · exact le_braces hk
          · split at hk
            · cases hk; omega
            · split at hk <;> (cases hk; omega)
        exact le_quants h1 h
    · cases h; exact hi
theorem le_piece {A : Nat → Nat → Rs (Tr × Nat)} {S : ByteArray} (hA : Le S A) : Le S (pieceG A S) := by
  intro i c T j h
  unfold pieceG at h
  split at h
  · cases h
  · rename_i h1
    have g1 := hA _ _ _ _ h1
    split at h
    · cases h
    · rename_i h2
      cases h
      exact le_quants g1 h2
theorem le_seq {P : Nat → Nat → Rs (Tr × Nat)} {S : ByteArray} (hP : Le S P) {N : Nat → Int} : ∀ {n : Nat} {L : List Tr} {i c j : Nat} {T : Tr × Nat}, i ≤ S.size → seqG P N n L i c = .ok T j → j ≤ S.size
  | 0, _, _, _, _, _, _, h => by cases h
  | n + 1, L, i, c, j, T, hi, h => by
    rw [seqG] at h
    split at h
    · cases h; exact hi
    · split at h
      · cases h
      · rename_i h1
        exact le_seq hP (hP _ _ _ _ h1) h
theorem le_choice {Q : Nat → Nat → Rs (Tr × Nat)} {S : ByteArray} (hQ : ∀ i c T j, i ≤ S.size → Q i c = .ok T j → j ≤ S.size) : ∀ {n : Nat} {L : List Tr} {i c j : Nat} {T : Tr × Nat}, i ≤ S.size → choiceG Q (nx S) n L i c = .ok T j → j ≤ S.size
  | 0, _, _, _, _, _, _, h => by cases h
  | n + 1, L, i, c, j, T, hi, h => by
    rw [choiceG] at h
    split at h
    · cases h
    · rename_i h1
      have g1 := hQ _ _ _ _ hi h1
      split at h
      · rename_i q
        have := in_of_nx q (by omega)
        exact le_choice hQ (by omega) h
      · cases h; exact g1
theorem le_choF {G : Nat → Nat → Rs (Tr × Nat)} {S : ByteArray} (hG : Le S G) (D : Df) (n : Nat) (fold : Bool) : ∀ i c T j, i ≤ S.size → choF G S D n fold i c = .ok T j → j ≤ S.size := fun _ _ _ _ hi h =>
  le_choice (fun _ _ _ _ hi h => le_seq (le_piece (le_atom hG D n fold)) hi h) hi h
theorem le_grp (S : ByteArray) (D : Df) (n : Nat) (fold : Bool) : ∀ d, Le S (grpD S D n fold d)
  | 0 => fun i c T j h => by cases h
  | d + 1 => fun i c T j h => by
    rw [grpD] at h
    unfold grpG at h
    split at h
    · cases h
    · split at h
      · rename_i q
        have := in_of_nx q (by omega)
        cases h; omega
      · cases h
/-- What is read from at most 600 bytes has a text of at most 10000. -/
theorem read_len {S : ByteArray} {D : Df} {n : Nat} (hD : DfS D n) (hS : S.size ≤ 600) {T : Tr × Nat} {j : Nat} (h : readP S D n false = .ok T j) : rightB T.1 = true ∧ (txt T.1).length ≤ 10000 := by
  unfold readP at h
  rw [if_neg (by omega)] at h
  unfold wholeP at h
  split at h
  · cases h
  · rename_i T1 j1 h1
    split at h
    · rename_i hj
      split at h
      · rename_i hr
        cases h
        refine ⟨hr, ?_⟩
        obtain ⟨g1, g2⟩ := lb_choF (lb_grp S hD 20) S hD _ _ _ _ h1
        have g3 := lvs_sz _ (right_ok hr)
        have g4 : sz T.1 ≤ 200 := by unfold rightB at hr; simp only [Bool.and_eq_true, decide_eq_true_eq] at hr; exact hr.2.2
        have g5 : j ≤ S.size := le_choF (le_grp S D n false 20) D n false _ _ _ _ (Nat.zero_le _) h1
        unfold tl at g2
        omega
      · cases h
    · cases h
end Go.Proofs.YtnloepanbjgbaaaGreatDoor
/- The law's Pieces: a text of few bytes. -/
namespace Go.Proofs.YtnloepanbjgbaaaGreatDoor
open Go.RowKit
def pcs : List (List UInt8) := [[97], [98], [124], [42], [43], [63], [123, 50, 125], [123, 49, 44, 51, 125], [123, 48, 44, 125], [40], [41], [91], [93], [94], [45], [91, 97, 45, 99, 93], [91, 94, 98, 93], [46], [92, 110], [92, 120, 54, 49], [92, 42], [123, 68, 125], [123, 97, 98, 125], [123], [125], [48], [44], [91, 94, 92, 120, 48, 48, 45, 92, 120, 102, 102, 93], [123, 50, 49, 125], [123, 51, 44, 50, 125], [92], [120], [32], [36]]
def pcsRow : Array Value := (pcs.map strV).toArray
theorem pcs_at {w : World} {g e : Nat} (h : w.heap[g]? = some (.cells pcsRow e (0, 0))) {r : Int} (h0 : 0 ≤ r) (h1 : r < 34) : ∃ x : List UInt8, x.length ≤ 12 ∧ w.cell? ⟨g, r.toNat, none⟩ = some (strV x) := by
  have hr : r.toNat < pcs.length := by show _ < 34; omega
  have h2 : ∀ x ∈ pcs, x.length ≤ 12 := by decide
  refine ⟨pcs[r.toNat], h2 _ (List.getElem_mem hr), ?_⟩
  rw [cell_of_row w g r.toNat _ _ _ h]
  unfold pcsRow
  simp [List.getElem?_map, List.getElem?_eq_getElem hr]
set_option maxRecDepth 100000 in
set_option maxHeartbeats 4000000 in
theorem pieces_any (w : World) (a : Option Addr) (n cap : Nat) (F : Nat → Int) (h : ByteRow w a n F) (hF : ∀ i, 0 ≤ F i ∧ F i < 256) (hn : n ≤ cap) (hc : cap ≤ maxLen) :
    Calls Tryz.prog 12 #[.slice a n cap] w fun e w' => ∃ l : List UInt8, e = .returned (strV l) ∧ l.length ≤ 600 ∧ Below w.heap.size w w' := by
  unfold maxLen at hc
  have HF := Lib.hid hF
  have hb1 := alloc_below w (.cells pcsRow 9)
  have HQ := Lib.hid (heap_alloc_new w (.cells pcsRow 9))
  have HR := Lib.hid (h.below hb1)
  have HB := Lib.hid hb1
  have hql : w.heap.size < (w.alloc (.cells pcsRow 9)).heap.size := by simp
  clear h hF hb1
  go_enter Tryz.func12, Tryz.ntmps12
  go_wp2_with fail
  obtain ⟨w1, e1⟩ : ∃ w1, w1 = w.alloc (.cells pcsRow 9) := ⟨_, rfl⟩
  rw [← e1] at HQ HR HB hql
  change Code.wp _ _ _ _ (w.alloc (.cells pcsRow 9))
  rw [← e1]
  clear e1
  generalize hqe : w.heap.size = q at *
  go_loopw [4, 5] (fun v c wr => ∃ (j : Nat) (l : List UInt8), j ≤ 16 ∧ c = .int .i64 j ∧ Hid (v = strV l ∧ l.length ≤ 12 * j) ∧ Below w1.heap.size w1 wr) (fun _ c _ => 16 - (intOf c).toNat)
  case atStart => exact ⟨0, [], by omega, rfl, Lib.hid ⟨rfl, by simp⟩, Below.refl _ _⟩
  case round =>
    obtain ⟨j, l, hj, rfl, HV, hb⟩ := hrel
    obtain ⟨rfl, hl⟩ := HV.out
    have HL := Lib.hid hl
    clear hl HV
    by_cases hlt : j < n
    · by_cases h16 : j < 16
      · obtain ⟨g, off, rfl, hg, hcc⟩ := HR.out (by omega)
        have hcj := (hb.cell (p := ⟨g, off + j, none⟩) hg).trans (hcc j hlt)
        obtain ⟨b, hbb⟩ : ∃ b, b = F j := ⟨_, rfl⟩
        rw [← hbb] at hcj
        have hb0 := (HF.out j).1
        have hb1 := (HF.out j).2
        rw [← hbb] at hb0 hb1
        obtain ⟨x, hx, hcx⟩ := pcs_at ((hb.block q hql).trans HQ.out) (Int.emod_nonneg b (show (34 : Int) ≠ 0 by omega)) (Int.emod_lt_of_pos b (show (0 : Int) < 34 by omega))
        have HX := Lib.hid hx
        have r0 := Int.emod_nonneg b (show (34 : Int) ≠ 0 by omega)
        have r1 := Int.emod_lt_of_pos b (show (0 : Int) < 34 by omega)
        have i1 : (j : Int) < (n : Int) := by omega
        have i2 : (j : Int) < 16 := by omega
        have ha := fun w => str_add l x (by have := HL.out; omega) w
        clear hbb hcc hx
        go_wp2
        exact ⟨⟨j + 1, l ++ x, by omega, by go_num, Lib.hid ⟨rfl, by have := HL.out; have := HX.out; rw [List.length_append]; omega⟩, hb⟩, by simp [intOf]; omega⟩
      · have i1 : (j : Int) < (n : Int) := by omega
        have i2 : ¬ (j : Int) < 16 := by omega
        go_wp2
        go_ret
        exact ⟨l, rfl, by have := HL.out; omega, HB.out.trans (hb.mono (Nat.le_of_lt hql))⟩
    · have i1 : ¬ (j : Int) < (n : Int) := by omega
      go_wp2
      go_ret
      exact ⟨l, rfl, by have := HL.out; omega, HB.out.trans (hb.mono (Nat.le_of_lt hql))⟩
end Go.Proofs.YtnloepanbjgbaaaGreatDoor
/- The law ReadRight: the walk. -/
namespace Go.Proofs.YtnloepanbjgbaaaGreatDoor
open Go.RowKit
theorem txt_all (t : Tr) : txt t = if t.k = 1 then [40, 41] else if t.k = 2 then setT t.s else catTo (pieceT t.k t.kid) t.n ++ (if t.k = 5 then countsT t.lo t.hi else []) := by
  cases t with
  | nul => rfl
  | node k s lo hi a n cap kid => rw [txt]; rfl
theorem txt_same2 : ∀ (t : Tr) {u : Tr}, sameT t u = true → txt t = txt u
  | .node k s lo hi a n cap kid, u, h => by
    obtain ⟨hk, hs, hl, hh, hn, hkid⟩ := same_like h
    rw [txt_all, txt_all u, ← hk, ← hl, ← hh, ← hn, setT_same hs]
    congr 2
    congr 1
    refine catTo_cong _ fun i hi => ?_
    have hsi := hkid i hi
    have := txt_same2 (kid i) hsi
    unfold pieceT
    show _ ++ encT (txt (kid i)) (enclB (kid i).k k) = _ ++ encT (txt (u.kid i)) (enclB (u.kid i).k k)
    rw [this, show (kid i).k = (u.kid i).k from (same_like hsi).1]
  | .nul, u, h => by
    obtain ⟨hk, hs, hl, hh, hn, hkid⟩ := same_like h
    rw [txt_all, txt_all u, ← hk, ← hl, ← hh, ← hn, setT_same hs]
    rfl
theorem ek_hex {N : Nat → Int} {i k : Nat} {e : Int} (h : hexP N i = .er e k) : e ≠ 0 := by
  unfold hexP at h; split at h
  · cases h; omega
  · split at h <;> cases h; omega
theorem ek_esc {N : Nat → Int} {i k : Nat} {e : Int} (h : escP N i = .er e k) : e ≠ 0 := by
  unfold escP at h; split at h
  · exact ek_hex h
  · split at h
    · cases h
    · split at h
      · cases h
      · split at h <;> cases h; omega
theorem ek_one {N : Nat → Int} {cls : Bool} {i k : Nat} {e : Int} (h : oneP N cls i = .er e k) : e ≠ 0 := by
  unfold oneP at h; split at h
  · exact ek_esc h
  · split at h <;> cases h; omega
theorem ek_item {N : Nat → Int} {i k : Nat} {e : Int} (h : itemP N i = .er e k) : e ≠ 0 := by
  unfold itemP at h; split at h
  · rename_i q; cases h; exact ek_one q
  · split at h
    · split at h
      · rename_i q; cases h; exact ek_one q
      · split at h <;> cases h; omega
    · cases h
theorem ek_items {N : Nat → Int} : ∀ {n : Nat} {s : Nat → Int} {i k : Nat} {e : Int}, itemsP N n s i = .er e k → e ≠ 0
  | 0, _, _, _, _, h => by cases h; omega
  | n + 1, s, i, k, e, h => by
    rw [itemsP] at h; split at h
    · rename_i q; cases h; exact ek_item q
    · split at h
      · cases h
      · exact ek_items h
theorem ek_class {N : Nat → Int} {n : Nat} {fold : Bool} {i k : Nat} {e : Int} (h : classP N n fold i = .er e k) : e ≠ 0 := by
  unfold classP at h; split at h
  · rename_i q; cases h; exact ek_items q
  · rename_i s _ _
    generalize (if N (i + 1) = 94 then notS (foldB fold s) else foldB fold s) = F at h
    split at h <;> cases h; omega
def Ek (F : Nat → Nat → Rs (Tr × Nat)) : Prop := ∀ i c e k, F i c = .er e k → e ≠ 0
theorem ek_atom {G : Nat → Nat → Rs (Tr × Nat)} (hG : Ek G) (S : ByteArray) (D : Df) (n : Nat) (fold : Bool) : Ek (atomG G S D n fold) := by
  intro i c e k h
  unfold atomG at h; split at h
  · exact hG i c e k h
  · split at h
    · unfold leafR at h; split at h
      · cases h
      · rename_i q; cases h; exact ek_class q
    · split at h
      · unfold definedP at h; split at h
        · cases h; omega
        · split at h
          · split at h <;> cases h; omega
          · cases h; omega
      · split at h
        · cases h
        · unfold charR at h; split at h
          · cases h
          · rename_i q; cases h; exact ek_one q
theorem ek_num {N : Nat → Int} {i k : Nat} {e : Int} (h : numP N i = .er e k) : e ≠ 0 := by
  unfold numP at h; split at h <;> cases h; omega
theorem ek_braces {N : Nat → Int} {i k : Nat} {e : Int} (h : bracesP N i = .er e k) : e ≠ 0 := by
  unfold bracesP at h; split at h
  · rename_i q; cases h; exact ek_num q
  · split at h
    · rename_i q
      cases h
      unfold upperP at q; split at q
      · split at q
        · cases q
        · exact ek_num q
      · cases q
    · split at h
      · split at h <;> cases h; omega
      · cases h; omega
theorem ek_quants {N : Nat → Int} : ∀ {n : Nat} {t : Tr} {i k : Nat} {e : Int}, quantsG N n t i = .er e k → e ≠ 0
  | 0, _, _, _, _, h => by cases h; omega
  | n + 1, t, i, k, e, h => by
    rw [quantsG] at h; split at h
    · split at h
      · rename_i q
        cases h
        unfold quantP at q; split at q
        · exact ek_braces q
        · split at q
          · cases q
          · split at q <;> cases q
      · exact ek_quants h
    · cases h
theorem ek_piece {A : Nat → Nat → Rs (Tr × Nat)} (hA : Ek A) (S : ByteArray) : Ek (pieceG A S) := by
  intro i c e k h
  unfold pieceG at h; split at h
  · rename_i q; cases h; exact hA _ _ _ _ q
  · split at h
    · rename_i q; cases h; exact ek_quants q
    · cases h
theorem ek_seq {P : Nat → Nat → Rs (Tr × Nat)} (hP : Ek P) {N : Nat → Int} : ∀ {n : Nat} {L : List Tr} {i c k : Nat} {e : Int}, seqG P N n L i c = .er e k → e ≠ 0
  | 0, _, _, _, _, _, h => by cases h; omega
  | n + 1, L, i, c, k, e, h => by
    rw [seqG] at h; split at h
    · cases h
    · split at h
      · rename_i q; cases h; exact hP _ _ _ _ q
      · exact ek_seq hP h
theorem ek_choice {Q : Nat → Nat → Rs (Tr × Nat)} (hQ : Ek Q) {N : Nat → Int} : ∀ {n : Nat} {L : List Tr} {i c k : Nat} {e : Int}, choiceG Q N n L i c = .er e k → e ≠ 0
  | 0, _, _, _, _, _, h => by cases h; omega
  | n + 1, L, i, c, k, e, h => by
    rw [choiceG] at h; split at h
    · rename_i q; cases h; exact hQ _ _ _ _ q
    · split at h
      · exact ek_choice hQ h
      · cases h
theorem ek_choF {G : Nat → Nat → Rs (Tr × Nat)} (hG : Ek G) (S : ByteArray) (D : Df) (n : Nat) (fold : Bool) : Ek (choF G S D n fold) := fun _ _ _ _ h =>
  ek_choice (fun _ _ _ _ h => ek_seq (ek_piece (ek_atom hG S D n fold) S) h) h
theorem ek_grp (S : ByteArray) (D : Df) (n : Nat) (fold : Bool) : ∀ d, Ek (grpD S D n fold d)
  | 0 => fun i c e k h => by cases h; omega
  | d + 1 => fun i c e k h => by
    rw [grpD] at h; unfold grpG at h; split at h
    · rename_i q; cases h; exact ek_choF (ek_grp S D n fold d) S D n fold _ _ _ _ q
    · split at h <;> cases h; omega
theorem ek_read {S : ByteArray} {D : Df} {n : Nat} {fold : Bool} {e : Int} {k : Nat} (h : readP S D n fold = .er e k) : e ≠ 0 := by
  unfold readP at h; split at h
  · cases h; omega
  · unfold wholeP at h; split at h
    · rename_i q; cases h; exact ek_choF (ek_grp S D n fold 20) S D n fold _ _ _ _ q
    · split at h
      · split at h <;> cases h; omega
      · cases h; omega
set_option maxRecDepth 100000 in
theorem dfs_short (g : Nat) : DfS (dfs g) 2 := fun m hm => by
  match m, hm with
  | 0, _ =>
    show tl (lfT 2 (sE 48 57)) + 9 ≤ 27 + 20 * lvs (lfT 2 (sE 48 57))
    obtain ⟨h1, h2⟩ := tl_lf2 (sE 48 57)
    rw [h1, h2, t09]; decide
  | 1, _ =>
    have e : tl ((dfs g).dt 1) = 0 + e3 (lfT 2 (sE 97 97)) + e3 (lfT 2 (sE 48 57)) := tl_3 rfl
    have e2 : lvs ((dfs g).dt 1) = 0 + 1 + 1 := rfl
    obtain ⟨h1, _⟩ := tl_lf2 (sE 97 97)
    obtain ⟨h3, _⟩ := tl_lf2 (sE 48 57)
    have g1 : e3 (lfT 2 (sE 97 97)) = tl (lfT 2 (sE 97 97)) + 0 := rfl
    have g2 : e3 (lfT 2 (sE 48 57)) = tl (lfT 2 (sE 48 57)) + 0 := rfl
    rw [e, e2, g1, g2, h1, h3, t09, set_a]; decide
end Go.Proofs.YtnloepanbjgbaaaGreatDoor
/- The law ReadRight: the walk. -/
namespace Go.Proofs.YtnloepanbjgbaaaGreatDoor
open Go.RowKit
set_option maxRecDepth 100000 in
set_option maxHeartbeats 4000000 in
theorem right_walk (w : World) (hE : ErrG w) (S : ByteArray) (hS : S.size ≤ maxLen) (sm : Bool) (a : Option Addr) (n cap : Nat) (F : Nat → Int) (h : ByteRow w a n F) (hF : ∀ i, 0 ≤ F i ∧ F i < 256) (hn : n ≤ cap) (hc : cap ≤ maxLen) :
    Calls Tryz.prog 5 #[.string S, .slice a n cap, .bool sm] w fun e w' => e = .returned (.bool true) ∧ Below w.heap.size w w' := by
  have HE := Lib.hid (fun w1 (hb : Below w.heap.size w w1) => hE.below hb)
  have HP := Lib.hid (fun w1 (hb : Below w.heap.size w w1) => pieces_any w1 a n cap F (h.below hb) hF hn hc)
  have HA := Lib.hid (awake_any w hE)
  unfold maxLen at hS
  clear hE h hF hn hc
  go_enter Tryz.func5, Tryz.ntmps5
  go_wp2_with fail
  refine HA.out.mono ?_
  rintro e w1 ⟨rfl, hb1⟩
  have B1 := Lib.hid hb1
  clear hb1 HA
  cases sm
  · by_cases hbig : 600 < S.size
    · have i1 : (600 : Int) < (S.size : Int) := by omega
      go_wp2_with fail
      refine (HP.out w1 B1.out).mono ?_
      rintro e w2 ⟨l, rfl, hl, hb2⟩
      have BS := Lib.hid (B1.out.trans (hb2.mono B1.out.size))
      have HS6 := Lib.hid (show (ByteArray.mk l.toArray).size ≤ 600 by simpa [ByteArray.size] using hl)
      clear hb2 hl B1 HP hbig i1
      go_wp2_with fail
      refine (defs_any _).mono ?_
      rintro e wd ⟨g, m, rfl, hbd, hD⟩
      have Bd := Lib.hid (BS.out.trans (hbd.mono BS.out.size))
      have Dd := Lib.hid hD
      clear hbd hD BS
      go_wp2_with fail
      refine (read_defs ⟨l.toArray⟩ _ (HE.out _ Bd.out) (by have := HS6.out; unfold maxLen; omega) Dd.out).mono ?_
      intro e w3 h3
      cases hR : readP ⟨l.toArray⟩ (dfs m) 2 false with
      | er c k =>
        rw [hR] at h3
        obtain ⟨hb3, rfl, hk⟩ := h3
        have hc : ¬ c = 0 := ek_read hR
        have B3 := Lib.hid (Bd.out.trans (hb3.mono Bd.out.size))
        have ha4 := alloc_below w3 (.cells (row8 0 z0 0 0 (.slice none 0 0)) 31)
        have B4 := Lib.hid (B3.out.trans (ha4.mono B3.out.size))
        obtain ⟨c0, c1, c2, c3, c4, c5, c6, c7⟩ := cell8 (s := z0) (heap_alloc_new w3 (.cells (row8 0 z0 0 0 (.slice none 0 0)) 31))
        have hk2 : k ≤ l.length := by simpa [ByteArray.size] using hk
        have hk' : (k : Int) ≤ (l.length : Int) := by omega
        have hk3 : (k : Int) ≤ ((ByteArray.mk l.toArray).size : Int) := by omega
        have hk0 : (0 : Int) ≤ (k : Int) := by omega
        clear hb3 ha4 hk hR Bd Dd B3 HS6 c1 c2 c3 c4 c5 c6 c7
        go_wp2
        go_ret
        exact ⟨rfl, B4.out⟩
      | ok T j =>
        rw [hR] at h3
        obtain ⟨hb3, t, rfl, hs, hL⟩ := h3
        obtain ⟨hrT, hlT⟩ := read_len (dfs_short m) HS6.out hR
        have RT := Lib.hid ((right_same hs).trans hrT)
        have LN := Lib.hid (show (txt t).length ≤ 10000 by rw [txt_same2 t hs]; exact hlT)
        have B3 := Lib.hid (Bd.out.trans (hb3.mono Bd.out.size))
        have ha4 := alloc_below w3 (.cells (row8 t.k t.s t.lo t.hi (.slice t.a t.n t.cap)) 31)
        have X4 := Lib.hid (Hx.new hL)
        have B4 := Lib.hid (B3.out.trans (ha4.mono B3.out.size))
        obtain ⟨c0, c1, c2, c3, c4, c5, c6, c7⟩ := cell8 X4.out.heap
        clear hs hL hb3 ha4 hR hrT hlT Bd Dd B3 HS6
        unfold Tr.val
        go_wp2_with fail
        clear c0 c1 c2 c3 c4 c5 c6 c7
        obtain ⟨w4, e4⟩ : ∃ w4, w4 = w3.alloc (.cells (row8 t.k t.s t.lo t.hi (.slice t.a t.n t.cap)) 31) := ⟨_, rfl⟩
        rw [← e4] at X4 B4 ⊢
        clear e4
        generalize w3.heap.size = q4 at *
        refine (print_any t w4 X4.out.lives).mono ?_
        rintro e w5 ⟨rfl, hb5⟩
        rw [printV_right RT.out]
        have X5 := Lib.hid (X4.out.now hb5)
        have B5 := Lib.hid (B4.out.trans (hb5.mono B4.out.size))
        clear hb5 X4 B4
        go_wp2_with fail
        refine (read_back RT.out LN.out (HE.out _ B5.out) X5.out.lives.wfT).mono ?_
        rintro e w6 ⟨y, rfl, hs6, lt6, hb6⟩
        have S6 := Lib.hid hs6
        have X6 := Lib.hid (X5.out.now hb6)
        have B6 := Lib.hid (B5.out.trans (hb6.mono B5.out.size))
        have ha7 := alloc_below w6 (.cells (row8 y.k y.s y.lo y.hi (.slice y.a y.n y.cap)) 31)
        have Y7 := Lib.hid (Hx.new lt6)
        have X7 := Lib.hid (X6.out.now ha7)
        have B7 := Lib.hid (B6.out.trans (ha7.mono B6.out.size))
        obtain ⟨c0, c1, c2, c3, c4, c5, c6, c7⟩ := cell8 X7.out.heap
        clear hs6 lt6 hb6 ha7 X5 B5 X6 B6
        unfold Tr.val
        go_wp2_with fail
        clear c0 c1 c2 c3 c4 c5 c6 c7
        obtain ⟨w7, e7⟩ : ∃ w7, w7 = w6.alloc (.cells (row8 y.k y.s y.lo y.hi (.slice y.a y.n y.cap)) 31) := ⟨_, rfl⟩
        rw [← e7] at X7 Y7 B7 ⊢
        clear e7
        generalize w6.heap.size = q7 at *
        refine (right_any t _ X7.out.lives).mono ?_
        rintro e w8 ⟨rfl, hb8⟩
        rw [RT.out]
        have X8 := Lib.hid (X7.out.now hb8)
        have Y8 := Lib.hid (Y7.out.now hb8)
        have B8 := Lib.hid (B7.out.trans (hb8.mono B7.out.size))
        obtain ⟨c0, c1, c2, c3, c4, c5, c6, c7⟩ := cell8 X8.out.heap
        obtain ⟨d0, d1, d2, d3, d4, d5, d6, d7⟩ := cell8 Y8.out.heap
        clear hb8 X7 Y7 B7
        go_wp2_with fail
        refine (refsame_any t y _ X8.out.lives Y8.out.lives).mono ?_
        rintro e w9 ⟨rfl, hb9⟩
        rw [S6.out]
        have B9 := Lib.hid (B8.out.trans (hb9.mono B8.out.size))
        clear hb9 X8 Y8 B8 c0 c1 c2 c3 c4 c5 c6 c7 d0 d1 d2 d3 d4 d5 d6 d7
        go_wp2
        go_ret
        exact ⟨rfl, B9.out⟩
    · have i1 : ¬ (600 : Int) < (S.size : Int) := by omega
      have BS := Lib.hid B1.out
      have HS6 := Lib.hid (show S.size ≤ 600 by omega)
      clear B1 HP hbig
      go_wp2_with fail
      refine (defs_any _).mono ?_
      rintro e wd ⟨g, m, rfl, hbd, hD⟩
      have Bd := Lib.hid (BS.out.trans (hbd.mono BS.out.size))
      have Dd := Lib.hid hD
      clear hbd hD BS
      go_wp2_with fail
      refine (read_defs S _ (HE.out _ Bd.out) (by have := HS6.out; unfold maxLen; omega) Dd.out).mono ?_
      intro e w3 h3
      cases hR : readP S (dfs m) 2 false with
      | er c k =>
        rw [hR] at h3
        obtain ⟨hb3, rfl, hk⟩ := h3
        have hc : ¬ c = 0 := ek_read hR
        have B3 := Lib.hid (Bd.out.trans (hb3.mono Bd.out.size))
        have ha4 := alloc_below w3 (.cells (row8 0 z0 0 0 (.slice none 0 0)) 31)
        have B4 := Lib.hid (B3.out.trans (ha4.mono B3.out.size))
        obtain ⟨c0, c1, c2, c3, c4, c5, c6, c7⟩ := cell8 (s := z0) (heap_alloc_new w3 (.cells (row8 0 z0 0 0 (.slice none 0 0)) 31))
        have hk' : (k : Int) ≤ (S.size : Int) := by omega
        have hk0 : (0 : Int) ≤ (k : Int) := by omega
        clear hb3 ha4 hk hR Bd Dd B3 HS6 c1 c2 c3 c4 c5 c6 c7
        go_wp2
        go_ret
        exact ⟨rfl, B4.out⟩
      | ok T j =>
        rw [hR] at h3
        obtain ⟨hb3, t, rfl, hs, hL⟩ := h3
        obtain ⟨hrT, hlT⟩ := read_len (dfs_short m) HS6.out hR
        have RT := Lib.hid ((right_same hs).trans hrT)
        have LN := Lib.hid (show (txt t).length ≤ 10000 by rw [txt_same2 t hs]; exact hlT)
        have B3 := Lib.hid (Bd.out.trans (hb3.mono Bd.out.size))
        have ha4 := alloc_below w3 (.cells (row8 t.k t.s t.lo t.hi (.slice t.a t.n t.cap)) 31)
        have X4 := Lib.hid (Hx.new hL)
        have B4 := Lib.hid (B3.out.trans (ha4.mono B3.out.size))
        obtain ⟨c0, c1, c2, c3, c4, c5, c6, c7⟩ := cell8 X4.out.heap
        clear hs hL hb3 ha4 hR hrT hlT Bd Dd B3 HS6
        unfold Tr.val
        go_wp2_with fail
        clear c0 c1 c2 c3 c4 c5 c6 c7
        obtain ⟨w4, e4⟩ : ∃ w4, w4 = w3.alloc (.cells (row8 t.k t.s t.lo t.hi (.slice t.a t.n t.cap)) 31) := ⟨_, rfl⟩
        rw [← e4] at X4 B4 ⊢
        clear e4
        generalize w3.heap.size = q4 at *
        refine (print_any t w4 X4.out.lives).mono ?_
        rintro e w5 ⟨rfl, hb5⟩
        rw [printV_right RT.out]
        have X5 := Lib.hid (X4.out.now hb5)
        have B5 := Lib.hid (B4.out.trans (hb5.mono B4.out.size))
        clear hb5 X4 B4
        go_wp2_with fail
        refine (read_back RT.out LN.out (HE.out _ B5.out) X5.out.lives.wfT).mono ?_
        rintro e w6 ⟨y, rfl, hs6, lt6, hb6⟩
        have S6 := Lib.hid hs6
        have X6 := Lib.hid (X5.out.now hb6)
        have B6 := Lib.hid (B5.out.trans (hb6.mono B5.out.size))
        have ha7 := alloc_below w6 (.cells (row8 y.k y.s y.lo y.hi (.slice y.a y.n y.cap)) 31)
        have Y7 := Lib.hid (Hx.new lt6)
        have X7 := Lib.hid (X6.out.now ha7)
        have B7 := Lib.hid (B6.out.trans (ha7.mono B6.out.size))
        obtain ⟨c0, c1, c2, c3, c4, c5, c6, c7⟩ := cell8 X7.out.heap
        clear hs6 lt6 hb6 ha7 X5 B5 X6 B6
        unfold Tr.val
        go_wp2_with fail
        clear c0 c1 c2 c3 c4 c5 c6 c7
        obtain ⟨w7, e7⟩ : ∃ w7, w7 = w6.alloc (.cells (row8 y.k y.s y.lo y.hi (.slice y.a y.n y.cap)) 31) := ⟨_, rfl⟩
        rw [← e7] at X7 Y7 B7 ⊢
        clear e7
        generalize w6.heap.size = q7 at *
        refine (right_any t _ X7.out.lives).mono ?_
        rintro e w8 ⟨rfl, hb8⟩
        rw [RT.out]
        have X8 := Lib.hid (X7.out.now hb8)
        have Y8 := Lib.hid (Y7.out.now hb8)
        have B8 := Lib.hid (B7.out.trans (hb8.mono B7.out.size))
        obtain ⟨c0, c1, c2, c3, c4, c5, c6, c7⟩ := cell8 X8.out.heap
        obtain ⟨d0, d1, d2, d3, d4, d5, d6, d7⟩ := cell8 Y8.out.heap
        clear hb8 X7 Y7 B7
        go_wp2_with fail
        refine (refsame_any t y _ X8.out.lives Y8.out.lives).mono ?_
        rintro e w9 ⟨rfl, hb9⟩
        rw [S6.out]
        have B9 := Lib.hid (B8.out.trans (hb9.mono B8.out.size))
        clear hb9 X8 Y8 B8 c0 c1 c2 c3 c4 c5 c6 c7 d0 d1 d2 d3 d4 d5 d6 d7
        go_wp2
        go_ret
        exact ⟨rfl, B9.out⟩
  · go_wp2_with fail
    refine (HP.out w1 B1.out).mono ?_
    rintro e w2 ⟨l, rfl, hl, hb2⟩
    have BS := Lib.hid (B1.out.trans (hb2.mono B1.out.size))
    have HS6 := Lib.hid (show (ByteArray.mk l.toArray).size ≤ 600 by simpa [ByteArray.size] using hl)
    clear hb2 hl B1 HP
    go_wp2_with fail
    refine (defs_any _).mono ?_
    rintro e wd ⟨g, m, rfl, hbd, hD⟩
    have Bd := Lib.hid (BS.out.trans (hbd.mono BS.out.size))
    have Dd := Lib.hid hD
    clear hbd hD BS
    go_wp2_with fail
    refine (read_defs ⟨l.toArray⟩ _ (HE.out _ Bd.out) (by have := HS6.out; unfold maxLen; omega) Dd.out).mono ?_
    intro e w3 h3
    cases hR : readP ⟨l.toArray⟩ (dfs m) 2 false with
    | er c k =>
      rw [hR] at h3
      obtain ⟨hb3, rfl, hk⟩ := h3
      have hc : ¬ c = 0 := ek_read hR
      have B3 := Lib.hid (Bd.out.trans (hb3.mono Bd.out.size))
      have ha4 := alloc_below w3 (.cells (row8 0 z0 0 0 (.slice none 0 0)) 31)
      have B4 := Lib.hid (B3.out.trans (ha4.mono B3.out.size))
      obtain ⟨c0, c1, c2, c3, c4, c5, c6, c7⟩ := cell8 (s := z0) (heap_alloc_new w3 (.cells (row8 0 z0 0 0 (.slice none 0 0)) 31))
      have hk2 : k ≤ l.length := by simpa [ByteArray.size] using hk
      have hk' : (k : Int) ≤ (l.length : Int) := by omega
      have hk3 : (k : Int) ≤ ((ByteArray.mk l.toArray).size : Int) := by omega
      have hk0 : (0 : Int) ≤ (k : Int) := by omega
      clear hb3 ha4 hk hR Bd Dd B3 HS6 c1 c2 c3 c4 c5 c6 c7
      go_wp2
      go_ret
      exact ⟨rfl, B4.out⟩
    | ok T j =>
      rw [hR] at h3
      obtain ⟨hb3, t, rfl, hs, hL⟩ := h3
      obtain ⟨hrT, hlT⟩ := read_len (dfs_short m) HS6.out hR
      have RT := Lib.hid ((right_same hs).trans hrT)
      have LN := Lib.hid (show (txt t).length ≤ 10000 by rw [txt_same2 t hs]; exact hlT)
      have B3 := Lib.hid (Bd.out.trans (hb3.mono Bd.out.size))
      have ha4 := alloc_below w3 (.cells (row8 t.k t.s t.lo t.hi (.slice t.a t.n t.cap)) 31)
      have X4 := Lib.hid (Hx.new hL)
      have B4 := Lib.hid (B3.out.trans (ha4.mono B3.out.size))
      obtain ⟨c0, c1, c2, c3, c4, c5, c6, c7⟩ := cell8 X4.out.heap
      clear hs hL hb3 ha4 hR hrT hlT Bd Dd B3 HS6
      unfold Tr.val
      go_wp2_with fail
      clear c0 c1 c2 c3 c4 c5 c6 c7
      obtain ⟨w4, e4⟩ : ∃ w4, w4 = w3.alloc (.cells (row8 t.k t.s t.lo t.hi (.slice t.a t.n t.cap)) 31) := ⟨_, rfl⟩
      rw [← e4] at X4 B4 ⊢
      clear e4
      generalize w3.heap.size = q4 at *
      refine (print_any t w4 X4.out.lives).mono ?_
      rintro e w5 ⟨rfl, hb5⟩
      rw [printV_right RT.out]
      have X5 := Lib.hid (X4.out.now hb5)
      have B5 := Lib.hid (B4.out.trans (hb5.mono B4.out.size))
      clear hb5 X4 B4
      go_wp2_with fail
      refine (read_back RT.out LN.out (HE.out _ B5.out) X5.out.lives.wfT).mono ?_
      rintro e w6 ⟨y, rfl, hs6, lt6, hb6⟩
      have S6 := Lib.hid hs6
      have X6 := Lib.hid (X5.out.now hb6)
      have B6 := Lib.hid (B5.out.trans (hb6.mono B5.out.size))
      have ha7 := alloc_below w6 (.cells (row8 y.k y.s y.lo y.hi (.slice y.a y.n y.cap)) 31)
      have Y7 := Lib.hid (Hx.new lt6)
      have X7 := Lib.hid (X6.out.now ha7)
      have B7 := Lib.hid (B6.out.trans (ha7.mono B6.out.size))
      obtain ⟨c0, c1, c2, c3, c4, c5, c6, c7⟩ := cell8 X7.out.heap
      clear hs6 lt6 hb6 ha7 X5 B5 X6 B6
      unfold Tr.val
      go_wp2_with fail
      clear c0 c1 c2 c3 c4 c5 c6 c7
      obtain ⟨w7, e7⟩ : ∃ w7, w7 = w6.alloc (.cells (row8 y.k y.s y.lo y.hi (.slice y.a y.n y.cap)) 31) := ⟨_, rfl⟩
      rw [← e7] at X7 Y7 B7 ⊢
      clear e7
      generalize w6.heap.size = q7 at *
      refine (right_any t _ X7.out.lives).mono ?_
      rintro e w8 ⟨rfl, hb8⟩
      rw [RT.out]
      have X8 := Lib.hid (X7.out.now hb8)
      have Y8 := Lib.hid (Y7.out.now hb8)
      have B8 := Lib.hid (B7.out.trans (hb8.mono B7.out.size))
      obtain ⟨c0, c1, c2, c3, c4, c5, c6, c7⟩ := cell8 X8.out.heap
      obtain ⟨d0, d1, d2, d3, d4, d5, d6, d7⟩ := cell8 Y8.out.heap
      clear hb8 X7 Y7 B7
      go_wp2_with fail
      refine (refsame_any t y _ X8.out.lives Y8.out.lives).mono ?_
      rintro e w9 ⟨rfl, hb9⟩
      rw [S6.out]
      have B9 := Lib.hid (B8.out.trans (hb9.mono B8.out.size))
      clear hb9 X8 Y8 B8 c0 c1 c2 c3 c4 c5 c6 c7 d0 d1 d2 d3 d4 d5 d6 d7
      go_wp2
      go_ret
      exact ⟨rfl, B9.out⟩
end Go.Proofs.YtnloepanbjgbaaaGreatDoor
namespace Go.Proofs.YtnloepanbjgbaaaGreatDoor
open Go.ChangeShapes Go.WideShapes Go.ChangeAt Go.RowKit Go.Joins
/-- What the listed variables hold. -/
abbrev laid4 {H : Type} : List (String × DataW H) := [("math/bits.deBruijn32tab", Rows.laid_math_bits_deBruijn32tab), ("math/bits.deBruijn64tab", Rows.laid_math_bits_deBruijn64tab), ("internal/strconv.uint64pow10", Rows.laid_internal_strconv_uint64pow10), ("errors.errorType", Rows.laid_errors_errorType)]
theorem et0 : Tryz.prog.globalNamed "errors.errorType" = some 0 := by kernel_rfl
theorem rt124 : (Tryz.prog.cutTypes.find? (·.1 == "internal/reflectlite.rtype")).map (·.2) = some 124 := by kernel_rfl
theorem tySize : Tryz.prog.types.size = 203 := by kernel_rfl
theorem oneRow : ((List.range 203).filter fun t => Tryz.prog.rowNamed t [101, 114, 114, 111, 114]) = [58] := by kernel_rfl
/-- What the condition gives the walk: the variable's one cell. -/
theorem handle_of_laid {W : World} (h : laidMetH Tryz.prog laid4 W) : ErrG W := by
  have h' : laidMet Tryz.prog [("math/bits.deBruijn32tab", Rows.laid_math_bits_deBruijn32tab), ("math/bits.deBruijn64tab", Rows.laid_math_bits_deBruijn64tab), ("internal/strconv.uint64pow10", Rows.laid_internal_strconv_uint64pow10)] W ∧ handlesMet Tryz.prog [("errors.errorType", Rows.laid_errors_errorType)] W := h
  obtain ⟨name, u, ty, e1, e2, e3, e4, e5⟩ := h'.2 _ (List.mem_singleton.2 rfl)
  have en : name = [101, 114, 114, 111, 114] := (Option.some.inj e1).symm
  subst en
  obtain rfl := Option.some.inj (rt124.symm.trans e2)
  have hm : ty ∈ (List.range 203).filter fun t => Tryz.prog.rowNamed t [101, 114, 114, 111, 114] := List.mem_filter.2 ⟨List.mem_range.2 (by rw [← tySize]; exact e3), e4⟩
  rw [oneRow] at hm
  obtain rfl := List.mem_singleton.1 hm
  have hh : typeHandle Tryz.prog 58 = .pointer (some ⟨5, 58, none⟩) := by kernel_rfl
  rw [hh] at e5
  simpa [ErrG] using World.var?_cell et0 e5 0
set_option maxRecDepth 100000 in
theorem door_met (os : Os) (args : Array Value) : laidMetH Tryz.prog laid4 ((World.doorLaid Tryz.prog 31 os).forCall (fun _ _ => 0) ⟨#[], args, []⟩).memory :=
  laidMetH_of_parts3 (fuel := 8) (laidMet_of_run' 8 (by kernel_rfl) (by kernel_rfl)) (by kernel_rfl) (by kernel_rfl)
set_option maxRecDepth 100000 in
theorem readRight_lifted (os : Os) (started : os.Started) (H : Type) (enc : TypeId × Value → H) :
    ReturnsInHanded {} Tryz.checked os 5 .any (fun w args => (Rows.readRightSpec.pre enc Tryz.prog Tryz.f5 [] false w args ∧ laidMetH Tryz.prog laid4 w) ∧ sizedMet enc Tryz.prog Tryz.f5 (OpenSpec.ofChange Rows.readRightSpec) false w args)
      (Rows.readRightSpec.post enc Tryz.prog Tryz.f5 false true false false) := by
  refine returnsInHanded_of_change_and (C := Tryz.checked) (X := fun w _ => laidMetH Tryz.prog laid4 w) (fun _ _ _ hh h => h.of_heap hh) own started (by kernel_rfl) Tryz.func5
    (ChangeSpec.witness_shaped (enc := enc) (C := Tryz.checked) (os := os) (X := fun w _ => laidMetH Tryz.prog laid4 w) false (World.doorLaid Tryz.prog 31 os) #[.string ⟨#[]⟩, .slice none 0 0, .bool false] 8 rfl (World.shaped_of_RefB (by kernel_rfl) (by kernel_rfl)) (by kernel_rfl) (by kernel_rfl) (by kernel_rfl) (door_met os _)) ?_
  intro W base args ds gs before hval0 hW _ _ hL _
  have hval : ∀ (j : Nat) t v, Tryz.f5.params[j]? = some t → args[j]? = some v → Value.okWide Tryz.prog W .any base t v := hval0
  have hW' := hW
  obtain ⟨p, q, hA0, hV, rfl, hfz, hnd⟩ := hW
  have hA : DataW.TrodAll enc Tryz.prog W 0 (fun _ => true) true Tryz.f5.params.toList args.toList ds p := hA0
  rw [Tryz.params5] at hA hval
  obtain ⟨v0, vs0, d0, ds0, p0, q0, hargs, rfl, rfl, h0, r0⟩ := trodAll_cons hA
  obtain ⟨v1, vs1, d1, ds1, p1, q1, rfl, rfl, rfl, h1, r1⟩ := trodAll_cons r0
  obtain ⟨v2, vs2, d2, ds2, p2, q2, rfl, rfl, rfl, h2, r2⟩ := trodAll_cons r1
  obtain ⟨rfl, rfl, rfl⟩ := trodAll_nil r2
  obtain rfl : args = #[v0, v1, v2] := by cases args; simp_all
  obtain ⟨rfl, rfl⟩ := trodVars_none hV
  have k1 := h1
  have lt1 : ∀ x ∈ p1, x.block < W.heap.size := by obtain ⟨m, hm⟩ := k1; exact DataW.trod_lt m _ _ _ hm
  obtain ⟨x0, rfl, rfl, rfl, w0⟩ := Go.ChangeMaps.open_string Tryz.underlying9 (hval 0 9 v0 rfl rfl) h0
  obtain ⟨a1, n1, c1, F1, rfl, hn1, hc1, hr1, hF1⟩ := open_bytes (hval 1 25 v1 rfl rfl) h1 lt1
  obtain ⟨x2, rfl, rfl, rfl⟩ := open_bool Tryz.underlying4 (hval 2 4 v2 rfl rfl) h2
  have hE := handle_of_laid hL
  clear hA0 hval0
  refine (right_walk W hE x0 w0 x2 a1 n1 c1 F1 hr1 hF1 hn1 hc1).mono fun e W' ⟨he, bel⟩ => ?_
  subst he
  exact ⟨_, rfl, _, _, _, [], _, [], hW', trodAll_mk1 (shut_bool Tryz.underlying4 _), (trodAll_cons_mk (Go.ChangeMaps.shut_string Tryz.underlying9 w0) (trodAll_cons_mk (Below.trod laidOut (by kernel_rfl) (of_decide_eq_true (by kernel_rfl)) k1 bel lt1) (trodAll_cons_mk (shut_bool Tryz.underlying4 _) trodAll_mk0))), rfl, bel.frame _, fun h => by cases h⟩
set_option maxRecDepth 100000 in
theorem readRight_said : Rows.ReadRightSaid :=
  OpenClaim.holds_of_wide 5 Tryz.f5 rfl rfl rfl rfl rfl rfl rfl ⟨rfl, rfl, rfl, rfl, rfl⟩ rfl rfl rfl rfl rfl (by kernel_rfl) Tryz.func5 (by kernel_rfl)
    (of_decide_eq_true (by kernel_rfl)) (by unfold Func.isWrapper; first | (rw [if_pos (by decide +kernel)]; kernel_rfl) | (rw [if_neg (by decide +kernel)]; exact ⟨rfl, rfl⟩))
    (fun os started H enc _ => readRight_lifted os started H enc)
set_option maxRecDepth 100000 in
theorem readRight_holds : Rows.ReadRightCardSaid :=
  Claim7.holds_tied_plain_at .later [] [.data, .data, .data, .handle] true (true, "589caee1697c2652f119e522b5bc3e8d06d494a842853d26870a465868189c71") true
    readRight_said (fun _ h => by cases h) (by kernel_rfl) (fun _ h => by cases h) readRight_row_tie rfl ⟨rfl, rfl⟩ (by kernel_rfl) rfl
    (fun f fn hf hfn => by
      obtain rfl : f = 5 := Option.some.inj ((show Tryz.prog.funcNamed "heckle/hecklelaw04.ReadRight" = some 5 by kernel_rfl).symm.trans hf) |>.symm
      obtain rfl : fn = Tryz.f5 := (Option.some.inj (Tryz.func5.symm.trans hfn)).symm
      exact ⟨by kernel_rfl, fun j t ht => by
        rw [Tryz.params5] at ht
        have hm : t ∈ [9, 25, 4] := by simpa using Array.mem_of_getElem? ht
        have hall : ([9, 25, 4].all fun u => !Tryz.prog.wantsStandIn u) = true := by kernel_rfl
        exact (show Tryz.prog.wantsStandIn t = false by simpa using List.all_eq_true.1 hall t hm)⟩)
    (by kernel_rfl)
#print axioms readRight_holds
end Go.Proofs.YtnloepanbjgbaaaGreatDoor
