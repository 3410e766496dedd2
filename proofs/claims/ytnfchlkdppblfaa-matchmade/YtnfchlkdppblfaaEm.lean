/- Contracts of repeated and joined. -/
import Derived.Test.YtnfchlkdppblfaaEl
namespace Go.Proofs.Ytnfchlkdppblfaa
open Go.RowKit Go.Maps Go
theorem rows.and {P Q : Nat → Prop} : ∀ {t : St}, rows P t → rows Q t → rows (fun g => P g ∧ Q g) t
  | .node _ _ _ _ _ _ kid, h, h' => ⟨fun hn => by
      obtain ⟨g, off, h1, h2⟩ := h.1 hn
      obtain ⟨g', off', h3, h4⟩ := h'.1 hn
      rw [h1] at h3
      injection h3 with h3
      injection h3 with q1 q2 q3
      subst q1
      exact ⟨g, off, h1, h2, h4⟩, fun i hi => rows.and (t := kid i) (h.2 i hi) (h'.2 i hi)⟩
  | .nul, _, _ => trivial
theorem Built.off {B : Nat} {P : Nat → Prop} {w : World} {t : St} (h : Built B P w t) {q : Nat} (hq : w.heap.size ≤ q) : Built B (fun g => P g ∧ g ≠ q) w t :=
  ⟨(h.rw.and (rows_of h.lv)).imp fun g hg => ⟨hg.1, by have := hg.2; omega⟩, h.lv, h.shp, h.sep, h.lo, h.em⟩
theorem rep_same {S : ByteArray} {B : Nat} {P : Nat → Prop} {w : World} {T : St} (ht : Built B P w T) (hk : T.k = 5) {o o' : Obj} : Gives S B P (plus (rel (nx S) S.size T)) w (.returned T.val) ((w.alloc o).alloc o') := by
  refine ⟨T, rfl, ht.below (alloc2_below _ _ _), ?_, by omega, alloc2_below _ _ _⟩
  rw [rel_rep hk, plus_plus]
theorem alloc3_below (w : World) (o o' o'' : Obj) : Below w.heap.size w (((w.alloc o).alloc o').alloc o'') := (alloc2_below w o o').alloc (by simp <;> omega) _
theorem rep_end {S : ByteArray} {B : Nat} {P : Nat → Prop} {w w3 : World} {T : St} {b3 : Nat} {W : World} {q : Nat} (hq : W.heap.size = q) (ht : Built B P w T) (hB : B ≤ w.heap.size) (hP : ∀ g, w.heap.size ≤ g → P g) (hW : Below w.heap.size w W) (hWs : w.heap.size + 2 ≤ W.heap.size)
    (hb3 : Below (W.alloc (.cells (row7 T.k T.s (.slice T.a T.n T.cap) (.map T.m)) 49)).heap.size (W.alloc (.cells (row7 T.k T.s (.slice T.a T.n T.cap) (.map T.m)) 49)) w3) (h3 : W.heap.size < b3) (hm3 : w3.heap[b3]? = some (.map #[] 0)) :
    Gives S B P (plus (rel (nx S) S.size T)) w (.returned (stepV 5 z0 (.slice (some ⟨q, 0, none⟩) 1 1) (.map (some b3)))) (put7 w3 (w.heap.size + 1) 5 z0 (.slice (some ⟨q, 0, none⟩) 1 1) (.map (some b3))) := by
  have hl3 := lt_of_some hm3
  have hbk := box_kept hb3
  rw [hq] at hbk
  have hs := hb3.size
  simp at hs
  have hB13 : Below W.heap.size W w3 := box_below hb3
  have hB3 : Below w.heap.size w w3 := hW.trans (hB13.mono hW.size)
  have hB4 : Below w.heap.size w (put7 w3 (w.heap.size + 1) 5 z0 (.slice (some ⟨q, 0, none⟩) 1 1) (.map (some b3))) := hB3.trans (put7_below w3 (by omega) _ _ _ _)
  have hr : (put7 w3 (w.heap.size + 1) 5 z0 (.slice (some ⟨q, 0, none⟩) 1 1) (.map (some b3))).heap[q]? = some (.cells (row7 T.k T.s (.slice T.a T.n T.cap) (.map T.m)) 49 (0, 0)) := by
    rw [put7_other _ _ _ _ _ _ _ (by omega) (by omega)]; exact hbk
  have hm3' : (put7 w3 (w.heap.size + 1) 5 z0 (.slice (some ⟨q, 0, none⟩) 1 1) (.map (some b3))).heap[b3]? = some (.map #[] 0) := by
    rw [put7_other _ _ _ _ _ _ _ (by omega) (by omega)]; exact hm3
  have hml : ∀ b, mem T b → b < w.heap.size := fun b hb => lt_of_some (ht.em b hb)
  have hbt : Built B P (put7 w3 (w.heap.size + 1) 5 z0 (.slice (some ⟨q, 0, none⟩) 1 1) (.map (some b3))) (.node 5 z0 (some ⟨q, 0, none⟩) 1 1 (some b3) fun _ => T) := by
    refine node_built (Or.inr (Or.inr ⟨rfl, rfl⟩)) (by omega) hm3' (Nat.le_refl _) (by unfold maxLen; omega) (fun _ => ⟨lt_of_some hr, hP _ (by omega)⟩) (fun i hi => ?_) (fun i hi => ht.below hB4) (fun i j hij hj => by omega) (fun i hi hb => by have := hml b3 hb; omega)
    obtain rfl : i = 0 := by omega
    rw [Nat.zero_mul, Nat.add_zero]
    exact at7_row hr
  exact ⟨_, rfl, hbt, rel_rep rfl, by simp [St.k], hB4⟩
set_option maxRecDepth 100000 in
set_option maxHeartbeats 2000000 in
theorem repeated_node (S : ByteArray) (B : Nat) (P : Nat → Prop) (k : Int) (s : Nat → Int) (a : Option Addr) (n cap : Nat) (m : Option Nat) (T : St) (hk : T.k = k) (hs : T.s = s) (ha : T.a = a) (hn : T.n = n) (hcp : T.cap = cap) (hm : T.m = m)
    (IH : ∀ (P : Nat → Prop) (w : World), Built B P w (T.kid 0) → B ≤ w.heap.size → (∀ g, w.heap.size ≤ g → P g) → Calls Try.prog 52 #[(T.kid 0).val] w (Gives S B P (plus (rel (nx S) S.size (T.kid 0))) w))
    (w : World) (ht : Built B P w T) (hB : B ≤ w.heap.size) (hP : ∀ g, w.heap.size ≤ g → P g) : Calls Try.prog 52 #[stepV k s (.slice a n cap) (.map m)] w (Gives S B P (plus (rel (nx S) S.size T)) w) := by
  have hT : T.val = stepV k s (.slice a n cap) (.map m) := by rw [← hk, ← hs, ← ha, ← hn, ← hcp, ← hm]; rfl
  have h7 : ∀ (w : World) (g : Nat), w.heap[g]? = some (.cells (row7 k s (.slice a n cap) (.map m)) 49 (0, 0)) → At7 w g 0 T := fun w g h => at7_row (e := 49) (by rw [hk, hs, ha, hn, hcp, hm]; exact h)
  have HIS : Hid (∀ o, Calls Try.prog 53 #[.pointer (some ⟨w.heap.size, 0, none⟩)] ((w.alloc (.cells (row7 k s (.slice a n cap) (.map m)) 49)).alloc o) fun e w' => e = .returned (.bool (isOptB T)) ∧ w' = ((w.alloc (.cells (row7 k s (.slice a n cap) (.map m)) 49)).alloc o)) :=
    Lib.hid fun o => isOptional_any _ 0 T _ _ (h7 _ _ (heap_alloc2_old _ _ _)) (ht.below (alloc2_below _ _ _)).lv ht.shp
  have HP' : ∀ g, w.heap.size + 2 ≤ g → P g ∧ g ≠ w.heap.size + 1 := fun g hg => ⟨hP g (by omega), by omega⟩
  cases hx : isOptB T
  · rw [hx] at HIS
    have hno : ¬ isOpt T := fun h => by rw [(isOptB_iff T).2 h] at hx; cases hx
    clear hx
    by_cases h5 : k = 5
    · have HF := Lib.hid (fun o o' => rep_same (S := S) (o := o) (o' := o') ht (hk.trans h5))
      rw [hT] at HF
      clear IH ht hB hP HP' h7 hT hk hs ha hn hcp hm hno
      subst h5
      go_enter Try.func52, Try.ntmps52
      go_wp2_with fail
      refine (HIS.out _).mono ?_
      rintro e w1 ⟨rfl, rfl⟩
      go_wp2_with fail
      exact bodyPost_ret (v := stepV 5 s (.slice a n cap) (.map m)) (ret7 (s := s) Try.results52 rfl (heap_alloc2_new _ _ _)) rfl (HF.out _ _)
    · have h5' : (k == 5) = false := by simp [h5]
      have HE := Lib.hid (fun w3 b3 W q hq => rep_end (S := S) (w3 := w3) (b3 := b3) (W := W) (q := q) hq ht hB hP)
      rw [hk, hs, ha, hn, hcp, hm] at HE
      clear IH ht hB hP HP' h7 hT hk hs ha hn hcp hm hno
      go_enter Try.func52, Try.ntmps52
      go_wp2_with fail
      refine (HIS.out _).mono ?_
      rintro e w1 ⟨rfl, rfl⟩
      go_wp2_with fail
      refine (newStep_any 5 _ _ _ _).mono ?_
      rintro e w3 ⟨rfl, hb3, hm3, hs3⟩
      have j1 : w3.heap[w.heap.size + 1]? = some (.cells (row7 0 z0 (.slice none 0 0) (.map none)) 49 (0, 0)) := (hb3.block (w.heap.size + 1) (by simp <;> omega)).trans ((Below.heap_alloc _ _ _ (by simp)).trans (heap_alloc2_new _ _ _))
      obtain ⟨f0, f1, f2, f3, f4, f5, f6⟩ := frozen7 (s := z0) j1
      obtain ⟨e0, e1, e2, e3, e4, e5, e6⟩ := cell7 (s := z0) j1
      have HE2 := Lib.hid (HE.out w3 (w.heap.size + 1 + 1 + 1 + 1) _ (w.heap.size + 1 + 1) (by simp) (alloc2_below _ _ _) (by simp) hb3 (by simp <;> omega) (by simpa using hm3))
      have HR := Lib.hid (fun v m => stored7 5 z0 v m j1)
      clear hb3 hm3 hs3 j1
      go_wp2_with fail
      exact bodyPost_ret (v := stepV 5 z0 (.slice (some ⟨w.heap.size + 1 + 1, 0, none⟩) 1 1) (.map (some (w.heap.size + 1 + 1 + 1 + 1)))) (ret7 (s := z0) Try.results52 rfl (HR.out _ _)) rfl HE2.out
  · rw [hx] at HIS
    have hop := (isOptB_iff T).1 hx
    clear hx
    have hn2 : 0 < T.n := by have := ht.shp.kinds; have := hop.1; omega
    have hrel := rel_opt (c := nx S) (L := S.size) ht.shp hop
    obtain ⟨ga, off, hga, hgl, hk7⟩ := ht.lv.row hn2
    have HK7 := Lib.hid (fun o o' => ((hk7 0 hn2).below hgl (alloc2_below w o o')))
    have HKB := Lib.hid (fun o o' => (ht.off (q := w.heap.size + 1) (by omega)).kid hn2 |>.below (alloc2_below w o o'))
    rw [ha] at hga
    have hcap := ht.lv.caps
    rw [hn, hcp] at hcap
    rw [hn] at hn2
    have HRL := Lib.hid hrel
    have HB0 := Lib.hid hB
    have HIH := Lib.hid IH
    have HPP := Lib.hid HP'
    clear IH ht hB hP HP' h7 hT hk hs ha hn hcp hm hop hrel hk7
    subst hga
    obtain ⟨U, hU⟩ : ∃ U, U = T.kid 0 := ⟨_, rfl⟩
    rw [← hU] at HK7 HKB HIH HRL
    clear hU
    have hnm : n ≤ maxLen := Nat.le_trans hcap.1 hcap.2.1
    unfold maxLen at hnm
    have hin : (0 : Int) < (n : Int) := by omega
    obtain ⟨c0, c1, c2, c3, c4, c5, c6⟩ := HK7.out (.cells (row7 k s (.slice (some ⟨ga, off, none⟩) n cap) (.map m)) 49) (.cells (row7 0 z0 (.slice none 0 0) (.map none)) 49)
    rw [Nat.zero_mul, Nat.add_zero] at c0 c1 c2 c3 c4 c5 c6
    have HC := Lib.hid (HIH.out _ _ (HKB.out (.cells (row7 k s (.slice (some ⟨ga, off, none⟩) n cap) (.map m)) 49) (.cells (row7 0 z0 (.slice none 0 0) (.map none)) 49)) (by have := HB0.out; simp; omega) (fun g hg => HPP.out g (by simpa using hg)))
    clear hcap
    go_enter Try.func52, Try.ntmps52
    go_wp2_with fail
    refine (HIS.out _).mono ?_
    rintro e w1 ⟨rfl, rfl⟩
    go_wp2_with fail
    refine HC.out.mono ?_
    rintro e w1 ⟨u, rfl, hu, hru, _, hb1⟩
    have hs1 := hb1.size
    simp at hs1
    have HO := Lib.hid (optional_any S B _ u w1 hu (by have := HB0.out; omega) (fun g hg => HPP.out g (by omega)))
    have HRU := Lib.hid hru
    clear hu hru
    go_wp2_with fail
    refine HO.out.mono ?_
    rintro e w2 ⟨v, rfl, hv, hrv, hkv, hb2⟩
    have j1 : w2.heap[w.heap.size + 1]? = some (.cells (row7 0 z0 (.slice none 0 0) (.map none)) 49 (0, 0)) := (hb2.block _ (by omega)).trans ((hb1.block _ (by simp)).trans (heap_alloc2_new _ _ _))
    obtain ⟨f0, f1, f2, f3, f4, f5, f6⟩ := frozen7 (s := z0) j1
    obtain ⟨e0, e1, e2, e3, e4, e5, e6⟩ := cell7 (s := z0) j1
    have hB2 : Below w.heap.size w w2 := (alloc2_below w _ _).trans ((hb1.mono (by simp <;> omega)).trans (hb2.mono (by omega)))
    have HF : Hid (Gives S B P (plus (rel (nx S) S.size T)) w (.returned v.val) (put7 w2 (w.heap.size + 1) v.k v.s (.slice v.a v.n v.cap) (.map v.m))) := Lib.hid ⟨v, rfl, (hv.put (put7_grown _ _ _ _ _ _) (fun g hg => hg.2) j1).imp (fun g hg => hg.1), by rw [hrv, HRU.out, HRL.out, plus_opt], hkv, hB2.trans (put7_below w2 (by omega) _ _ _ _)⟩
    have HR := Lib.hid (stored7 v.k v.s (.slice v.a v.n v.cap) (.map v.m) j1)
    clear hv hrv hkv hb2 j1
    rw [show v.val = stepV v.k v.s (.slice v.a v.n v.cap) (.map v.m) from rfl] at HF ⊢
    go_wp2_with fail
    exact bodyPost_ret (v := stepV v.k v.s (.slice v.a v.n v.cap) (.map v.m)) (ret7 (s := v.s) Try.results52 rfl HR.out) rfl HF.out
theorem reps_any (S : ByteArray) (B : Nat) : ∀ (t : St) (P : Nat → Prop) (w : World), Built B P w t → B ≤ w.heap.size → (∀ g, w.heap.size ≤ g → P g) → Calls Try.prog 52 #[t.val] w (Gives S B P (plus (rel (nx S) S.size t)) w)
  | .node k s a n cap m kid, P, w, ht, hB, hP => repeated_node S B P k s a n cap m (.node k s a n cap m kid) rfl rfl rfl rfl rfl rfl (reps_any S B (kid 0)) w ht hB hP
  | .nul, _, _, ht, _, _ => ht.shp.elim
/-- A row of steps that have been built. -/
structure KRow (B : Nat) (P : Nat → Prop) (w : World) (g off n cap : Nat) (kid : Nat → St) : Prop where
  nc : n ≤ cap
  cm : cap ≤ maxLen
  gl : g < w.heap.size
  pg : P g
  at7 : ∀ i, i < n → At7 w g (off + i * 7) (kid i)
  ks : ∀ i, i < n → Built B P w (kid i)
  sep : ∀ i j, i < j → j < n → ∀ b, mem (kid i) b → ¬ mem (kid j) b
  nk : ∀ i, i < n → (kid i).k ≠ 1
/-- What a Cat or an Alt of such steps matches. -/
def joinR (S : ByteArray) (kind : Int) (n : Nat) (kid : Nat → St) : Nat → Nat → Prop := if kind = 3 then chain (fun q => rel (nx S) S.size (kid q)) n else fun i j => ∃ q, q < n ∧ rel (nx S) S.size (kid q) i j
theorem join_one (S : ByteArray) (kind : Int) (kid : Nat → St) : joinR S kind 1 kid = rel (nx S) S.size (kid 0) := ext2 fun i j => by
  unfold joinR
  split
  · exact ⟨fun ⟨x, e, h⟩ => by cases e; exact h, fun h => ⟨i, rfl, h⟩⟩
  · exact ⟨fun ⟨q, hq, h⟩ => by obtain rfl : q = 0 := by omega
                                exact h, fun h => ⟨0, by omega, h⟩⟩
theorem join_many {S : ByteArray} {B : Nat} {P : Nat → Prop} {w w3 : World} {kind : Int} {g off n cap b3 : Nat} {kid : Nat → St} (hk : kind = 3 ∨ kind = 4) (hR : KRow B P w g off n cap kid) (h2 : 2 ≤ n) (hB : B ≤ w.heap.size) (h3 : Below w.heap.size w w3) (hb3 : w.heap.size < b3) (hm3 : w3.heap[b3]? = some (.map #[] 0)) :
    Gives S B P (joinR S kind n kid) w (.returned (stepV kind z0 (.slice (some ⟨g, off, none⟩) n cap) (.map (some b3)))) (put7 w3 w.heap.size kind z0 (.slice (some ⟨g, off, none⟩) n cap) (.map (some b3))) := by
  have hl3 := lt_of_some hm3
  have hs := h3.size
  have hB4 : Below w.heap.size w (put7 w3 w.heap.size kind z0 (.slice (some ⟨g, off, none⟩) n cap) (.map (some b3))) := h3.trans (put7_below w3 (Nat.le_refl _) _ _ _ _)
  have hm3' : (put7 w3 w.heap.size kind z0 (.slice (some ⟨g, off, none⟩) n cap) (.map (some b3))).heap[b3]? = some (.map #[] 0) := by
    rw [put7_other _ _ _ _ _ _ _ (by omega) (by omega)]; exact hm3
  have hbt : Built B P (put7 w3 w.heap.size kind z0 (.slice (some ⟨g, off, none⟩) n cap) (.map (some b3))) (.node kind z0 (some ⟨g, off, none⟩) n cap (some b3) kid) := by
    refine node_built ?_ (by omega) hm3' hR.nc hR.cm (fun _ => ⟨Nat.lt_of_lt_of_le hR.gl hB4.size, hR.pg⟩) (fun i hi => (hR.at7 i hi).below hR.gl hB4) (fun i hi => (hR.ks i hi).below hB4) hR.sep (fun i hi hb => by have := lt_of_some ((hR.ks i hi).em b3 hb); omega)
    rcases hk with h | h
    · exact Or.inl h
    · exact Or.inr (Or.inl ⟨h, h2, fun e => absurd e (hR.nk 1 (by omega))⟩)
  refine ⟨_, rfl, hbt, ?_, by rcases hk with rfl | rfl <;> simp [St.k], hB4⟩
  unfold joinR
  rcases hk with rfl | rfl
  · rw [if_pos rfl]; exact rel_cat rfl
  · rw [if_neg (by omega)]; exact rel_alt rfl
set_option maxRecDepth 100000 in
set_option maxHeartbeats 2000000 in
theorem joinS_any (S : ByteArray) (B : Nat) (P : Nat → Prop) (kind : Int) (hk : kind = 3 ∨ kind = 4) (g off n cap : Nat) (kid : Nat → St) (w : World) (hR : KRow B P w g off n cap kid) (h1 : 1 ≤ n) (hB : B ≤ w.heap.size) :
    Calls Try.prog 32 #[.int .i64 kind, .slice (some ⟨g, off, none⟩) n cap] w (Gives S B P (joinR S kind n kid) w) := by
  have hnm : n ≤ maxLen := Nat.le_trans hR.nc hR.cm
  unfold maxLen at hnm
  rcases (show n = 1 ∨ 2 ≤ n by omega) with rfl | h2
  · obtain ⟨u, hu⟩ : ∃ u, u = kid 0 := ⟨_, rfl⟩
    have h7 := hR.at7 0 (by omega)
    rw [← hu, Nat.zero_mul, Nat.add_zero] at h7
    obtain ⟨c0, c1, c2, c3, c4, c5, c6⟩ := h7
    have HF : Hid (∀ o, Gives S B P (joinR S kind 1 kid) w (.returned u.val) (w.alloc o)) := Lib.hid fun o => by
      refine ⟨u, rfl, by rw [hu]; exact (hR.ks 0 (by omega)).below (alloc_below _ _), by rw [join_one, hu], by rw [hu]; exact hR.nk 0 (by omega), alloc_below _ _⟩
    have hgl := hR.gl
    clear hR hu hk hB
    go_enter Try.func32, Try.ntmps32
    go_wp2_with fail
    exact bodyPost_ret (v := stepV u.k u.s (.slice u.a u.n u.cap) (.map u.m)) (ret7 (s := u.s) Try.results32 rfl (heap_alloc_new _ _)) rfl (HF.out _)
  · have HE := Lib.hid (fun w3 b3 => join_many (S := S) (w3 := w3) (b3 := b3) hk hR h2 hB)
    have e1 : ((n : Int) == 1) = false := by simp; omega
    have e2 : (n == 1) = false := by simp; omega
    have e3 : ¬ (n : Int) = 1 := by omega
    clear hR hk hB
    go_enter Try.func32, Try.ntmps32
    go_wp2_with fail
    refine (newStep_any kind _ _ _ _).mono ?_
    rintro e w3 ⟨rfl, hb3, hm3, hs3⟩
    have j1 : w3.heap[w.heap.size]? = some (.cells (row7 0 z0 (.slice none 0 0) (.map none)) 49 (0, 0)) := box_kept hb3
    obtain ⟨f0, f1, f2, f3, f4, f5, f6⟩ := frozen7 (s := z0) j1
    obtain ⟨e0, e1, e2, e3, e4, e5, e6⟩ := cell7 (s := z0) j1
    have HE2 := Lib.hid (HE.out w3 (w.heap.size + 1 + 1) (box_below hb3) (by omega) (by simpa using hm3))
    have HR := Lib.hid (fun v m => stored7 kind z0 v m j1)
    clear hb3 hm3 hs3 j1
    go_wp2_with fail
    exact bodyPost_ret (v := stepV kind z0 (.slice (some ⟨g, off, none⟩) n cap) (.map (some (w.heap.size + 1 + 1)))) (ret7 (s := z0) Try.results32 rfl (HR.out _ _)) rfl HE2.out
end Go.Proofs.Ytnfchlkdppblfaa
