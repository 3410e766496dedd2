/- What MatchTimes leans on: the empty text and Null; a text's rest; some times and any times; the law's own opt. -/
import Derived.Test.YtecngmnfbdbjfaaFa
import Derived.Test.YtecngmnfbdbjfaaFb
import Derived.Test.YtecngmnfbdbjfaaFc
namespace Go.Proofs.Ytecngmnfbdbjfaa
open Go.RowKit Go.Maps Go
theorem chain_nil {r : Nat → Nat → Nat → Prop} : ∀ {n : Nat}, (∀ q, q < n → ∀ i j, r q i j → i ≤ j) → (chain r n 0 0 ↔ ∀ q, q < n → r q 0 0)
  | 0, _ => ⟨fun _ q h => by omega, fun _ => rfl⟩
  | n + 1, hu => by
    have ih := chain_nil (r := r) (n := n) fun q hq => hu q (by omega)
    constructor
    · rintro ⟨x, h1, h2⟩
      have hx := hu n (by omega) x 0 h2
      obtain rfl : x = 0 := by omega
      intro q hq
      by_cases e : q = n
      · rw [e]; exact h2
      · exact ih.1 h1 q (by omega)
    · intro h
      exact ⟨0, ih.2 fun q hq => h q (by omega), h n (by omega)⟩
theorem pw_nil {r : Nat → Nat → Prop} (hu : ∀ i j, r i j → i ≤ j) : ∀ q, pw r q 0 0 ↔ (q = 0 ∨ r 0 0)
  | 0 => ⟨fun _ => Or.inl rfl, fun _ => rfl⟩
  | q + 1 => by
    constructor
    · rintro ⟨x, h1, h2⟩
      have hx := hu x 0 h2
      obtain rfl : x = 0 := by omega
      exact Or.inr h2
    · rintro (h | h)
      · omega
      · exact ⟨0, (pw_nil hu q).2 (Or.inr h), h⟩
theorem mt_null (c : Nat → Int) : ∀ {t : Tr}, fitT t = true → (mt c 0 t 0 0 ↔ nullT t = true)
  | .node k s lo hi a n cap kid, hf => by
    have hfit := fitT_fits hf
    have IH := fun i (hi : i < n) => mt_null c (t := kid i) (fitT_kid hf hi)
    have hcs := fits_cases hfit
    have hh := counts_hi hfit
    simp only [Tr.k, Tr.n, Tr.lo, Tr.hi] at hcs hh
    rcases hcs with ⟨rfl, rfl⟩ | ⟨rfl, rfl⟩ | ⟨rfl | rfl, h2⟩ | ⟨rfl, rfl, h0, _, _, _⟩
    · simp [mt, nullT]
    · simp [mt, nullT, bytR]
    · have e1 : nullT (.node 3 s lo hi a n cap kid) = allTo (fun i => nullT (kid i)) n := by simp [nullT]
      have e2 : mt c 0 (.node 3 s lo hi a n cap kid) 0 0 ↔ chain (fun q => mt c 0 (kid q)) n 0 0 := by simp [mt]
      rw [e1, e2, chain_nil (fun q _ => mt_up c 0 (kid q)), allTo_iff]
      exact forall_congr' fun q => forall_congr' fun hq => IH q hq
    · have e1 : nullT (.node 4 s lo hi a n cap kid) = anyTo (fun i => nullT (kid i)) n := by simp [nullT]
      have e2 : mt c 0 (.node 4 s lo hi a n cap kid) 0 0 ↔ ∃ q, q < n ∧ mt c 0 (kid q) 0 0 := by simp [mt]
      rw [e1, e2, anyTo_iff]
      exact exists_congr fun q => and_congr_right fun hq => IH q hq
    · have e1 : nullT (.node 5 s lo hi a 1 cap kid) = (decide (lo = 0) || nullT (kid 0)) := by simp [nullT, allTo]
      have e2 : mt c 0 (.node 5 s lo hi a 1 cap kid) 0 0 ↔ tms (mt c 0 (kid 0)) lo hi 0 0 := by simp [mt]
      rw [e1, e2, Bool.or_eq_true, decide_eq_true_eq, ← IH 0 (by omega)]
      have hp := pw_nil (mt_up c 0 (kid 0))
      constructor
      · rintro ⟨q, h1, h2, h3⟩
        rcases (hp q).1 h3 with e | e
        · exact Or.inl (by omega)
        · exact Or.inr e
      · rintro (e | e)
        · exact ⟨0, by omega, by have := hh rfl; omega, rfl⟩
        · exact ⟨lo.toNat, by omega, by have := hh rfl; omega, (hp _).2 (Or.inr e)⟩
  | .nul, hf => by cases hf
theorem lst_shift {R R' : Nat → Prop} {i M : Nat} (h : ∀ b, b ≤ M → (R' b ↔ R (i + b))) (h0 : ∀ j, j < i → ¬ R j) : lst (i + M) R = (lst M R').map (i + ·) := by
  classical
  unfold lst
  rw [show i + M + 1 = i + (M + 1) by omega, List.range_add, List.filter_append, List.filter_eq_nil_iff.2 (fun a ha => by simpa using h0 a (List.mem_range.1 ha)), List.nil_append, List.filter_map]
  congr 1
  refine List.filter_congr fun b hb => ?_
  have := h b (by have := List.mem_range.1 hb; omega)
  simp only [Function.comp]
  exact decide_eq_decide.2 this.symm
/-- The ends in a text from a place on are those in its rest. -/
theorem ends_shift (S : ByteArray) (t : Tr) {i : Nat} (hi : i ≤ S.size) (hS : S.size ≤ 10000) (hr : rightB t = true) : endsL S t (i : Int) = (endsL (S.extract i S.size) t 0).map (i + ·) := by
  obtain ⟨hs, hn⟩ := nx_sub S hi (Nat.le_refl _)
  unfold endsL
  rw [if_pos ⟨hr, hS, by omega, by omega⟩, if_pos ⟨hr, by omega, by omega, by omega⟩, hs]
  have e := lst_shift (i := i) (M := S.size - i) (R := mt (nx S) S.size t (i : Int).toNat) (R' := mt (nx (S.extract i S.size)) (S.size - i) t (0 : Int).toNat) (fun b hb => by
    have := mt_sub (L := S.size) hn (by omega) t 0 b hb
    rw [Nat.add_zero] at this
    exact this) (fun j hj q => by have := mt_up _ _ t _ j q; simp at this; omega)
  rw [show i + (S.size - i) = S.size by omega] at e
  exact e
/-- Any times. -/
theorem star_right {t : Tr} (g : Nat) (h : okT t 10 = true) (hs : sz t ≤ 40) (hc : cnt t ≤ 100) {lo hi : Int} (hlh : (lo = 0 ∧ hi = -1) ∨ (lo = 0 ∧ hi = 1)) : rightB (repX lo hi g t) = true := by
  have hf : fitsB (repX lo hi g t) = true := by
    rcases hlh with ⟨rfl, rfl⟩ | ⟨rfl, rfl⟩
    · simp [fitsB, repX, Tr.k, Tr.s, Tr.lo, Tr.hi, Tr.n, plainB, countsB, eq_z0]
    · simp [fitsB, repX, Tr.k, Tr.s, Tr.lo, Tr.hi, Tr.n, plainB, countsB, eq_z0]; exact decide_eq_true (by omega)
  have hok : okT (repX lo hi g t) 20 = true := by
    unfold repX at hf ⊢
    simp only [okT, hf, Bool.and_eq_true, decide_eq_true_eq]
    exact ⟨by omega, trivial, allTo_iff.2 fun i hi => okT_mono h (by omega)⟩
  have hcn : cnt (repX lo hi g t) = 1 + (0 + cnt t) := rfl
  have hsz : sz (repX lo hi g t) = sz t := by
    rw [sz_eq]
    have e1 : ownT (repX lo hi g t) = 0 := if_neg (show ¬ (5 : Int) = 2 by omega)
    have e2 : timT (repX lo hi g t) = 1 := ((if_neg (show ¬ ((5 : Int) = 3 ∨ (5 : Int) = 4) by omega)).trans (if_pos rfl)).trans (by rcases hlh with ⟨rfl, rfl⟩ | ⟨rfl, rfl⟩ <;> rfl)
    have e3 : sumTo (fun i => sz ((repX lo hi g t).kid i)) (repX lo hi g t).n = 0 + sz t := rfl
    rw [e1, e2, e3]; omega
  simp [rightB, hok, hcn, hsz]; omega
theorem rep_mat {t : Tr} {lo hi : Int} {g : Nat} (S : ByteArray) : mt (nx S) S.size (repX lo hi g t) = tms (mt (nx S) S.size t) lo hi := rep_mt rfl
theorem star_of {t : Tr} {lo hi : Int} {g g' : Nat} {S : ByteArray} (h : matB S (repX lo hi g t)) (h0 : 0 ≤ lo) (hr : rightB (repX 0 (-1) g' t) = true) : matB S (repX 0 (-1) g' t) := by
  refine ⟨hr, h.2.1, ?_⟩
  have := h.2.2
  rw [rep_mat] at this ⊢
  obtain ⟨q, h1, _, h3⟩ := this
  exact ⟨q, by omega, Or.inl rfl, h3⟩
theorem star_nil {t : Tr} {lo hi : Int} {g : Nat} (hlo : lo = 0) (hhi : hi = -1 ∨ 0 ≤ hi) (hr : rightB (repX lo hi g t) = true) : matB ⟨#[]⟩ (repX lo hi g t) := by
  refine ⟨hr, by decide, ?_⟩
  rw [rep_mat]
  exact ⟨0, by omega, by omega, rfl⟩
theorem rep_lives {w : World} {g : Nat} {t : Tr} {lo hi : Int} (ht : Lives w w.heap.size t) (hg : w.heap[g]? = some (.cells (row8 t.k t.s t.lo t.hi (.slice t.a t.n t.cap)) 30 (0, 0))) : Lives w w.heap.size (repX lo hi g t) := by
  refine ⟨wf_z0, Nat.le_refl _, by unfold maxLen; omega, fun _ => ⟨g, 0, rfl, lt_of_some hg, fun i hi => ?_⟩, fun i hi => ht⟩
  obtain rfl : i = 0 := by omega
  obtain ⟨d0, d1, d2, d3, d4, d5, d6, d7⟩ := cell8 (s := t.s) hg
  exact ⟨d0, d1, d2, d3, d4, d5, d6, d7⟩
/-- What opt gives. -/
def OptP (f : Nat → Int) (w : World) (e : Ending) (w' : World) : Prop := ∃ g, e = .returned (repX 0 1 g (leafT f)).val ∧ Lives w' w'.heap.size (repX 0 1 g (leafT f)) ∧ Below w.heap.size w w'
set_option maxRecDepth 100000 in
set_option maxHeartbeats 400000 in
theorem opt5_any (w : World) : Calls Try.prog 12 #[] w (OptP (sE 97 97) w) := by
  obtain ⟨f, hf⟩ : ∃ f, f = sE 97 97 := ⟨_, rfl⟩
  have HA := Lib.hid (fun w => char5_any 97 w)
  rw [← hf] at HA ⊢
  have hwf : Wf f := by rw [hf]; exact wf_acc _
  have HWF := Lib.hid hwf
  clear hf hwf
  go_enter Try.func12, Try.ntmps12
  go_wp2_with fail
  refine (HA.out _).mono ?_
  rintro e w1 ⟨rfl, hb1⟩
  have hr : w1.heap[w.heap.size]? = some (.cells (row8 0 z0 0 0 (.slice none 0 0)) 30 (0, 0)) := box_kept hb1
  have hB := box_below hb1
  have hs1 : w.heap.size < w1.heap.size := lt_of_some hr
  obtain ⟨d0, d1, d2, d3, d4, d5, d6, d7⟩ := cell8 (s := z0) hr
  obtain ⟨f0, f1, f2, f3, f4, f5, f6, f7⟩ := frozen8 (s := z0) hr
  obtain ⟨U, hU⟩ : ∃ U, U = put8 w1 w.heap.size 5 z0 0 1 (.slice (some ⟨w1.heap.size, 0, none⟩) 1 1) := ⟨_, rfl⟩
  have hUs : U.heap.size = w1.heap.size := by rw [hU]; exact put8_size _ _ _ _ _ _ _
  have HR : Hid ((U.alloc (.cells (row8 2 f 0 0 (.slice none 0 0)) 30)).heap[w.heap.size]? = some (.cells (row8 5 z0 0 1 (.slice (some ⟨w1.heap.size, 0, none⟩) 1 1)) 30 (0, 0))) := Lib.hid (by
    rw [(alloc_below U _).block _ (by omega), hU]
    exact stored8 5 z0 0 1 (.slice (some ⟨w1.heap.size, 0, none⟩) 1 1) hr)
  have HFIN : Hid (OptP f w (.returned (nodeV 5 z0 0 1 (.slice (some ⟨w1.heap.size, 0, none⟩) 1 1))) (U.alloc (.cells (row8 2 f 0 0 (.slice none 0 0)) 30))) := Lib.hid (by
    refine ⟨w1.heap.size, rfl, rep_lives (lives_leaf _ _ HWF.out) ?_, ?_⟩
    · have := heap_alloc_new U (.cells (row8 2 f 0 0 (.slice none 0 0)) 30)
      rw [hUs] at this
      exact this
    · have h1 : Below w.heap.size w U := by rw [hU]; exact hB.trans (put8_below _ (Nat.le_refl _) _ _ _ _ _)
      exact h1.alloc h1.size _)
  have HUU := Lib.hid hU
  clear hr hb1 hB hU hUs
  go_wp2_with fail
  show bodyPost Try.prog Try.f12 (OptP f w) Exit.ret _ ((put8 w1 w.heap.size 5 z0 0 1 (.slice (some ⟨w1.heap.size, 0, none⟩) 1 1)).alloc (.cells (row8 2 f 0 0 (.slice none 0 0)) 30))
  rw [← HUU.out]
  exact bodyPost_ret (v := nodeV 5 z0 0 1 (.slice (some ⟨w1.heap.size, 0, none⟩) 1 1)) (ret8 Try.results12 rfl HR.out) rfl HFIN.out
end Go.Proofs.Ytecngmnfbdbjfaa
