/- Contract of the step's again: a Rep. -/
import Derived.Test.YtnfchlkdppblfaaEh
namespace Go.Proofs.Ytnfchlkdppblfaa
open Go.RowKit Go.Maps Go
/-- How many a map has. -/
def msz (w : World) (b : Nat) : Nat := match w.heap[b]? with | some (.map es _) => es.size | _ => 0
def mapB : Value → Nat | .map (some b) => b | _ => 0
theorem PS.card {w : World} {b L : Nat} {S : Nat → Prop} (h : PS w b S) (hS : ∀ i, S i → i ≤ L) : msz w b = (lst L S).length := by
  obtain ⟨D, h, hs⟩ := h
  rw [← size_lst h hs hS]
  obtain ⟨es, clock, h1, h2, h3, h4⟩ := h
  unfold msz
  rw [h1, h4]
  simp [Maps.size, length_sorted]
theorem count_lt {p q : Nat → Bool} : ∀ {l : List Nat}, (∀ x, p x = true → q x = true) → (∃ x ∈ l, q x = true ∧ p x = false) → (l.filter p).length < (l.filter q).length
  | [], _, ⟨_, h, _⟩ => by cases h
  | a :: l, hpq, ⟨x, hx, h1, h2⟩ => by
    have hm : (l.filter p).length ≤ (l.filter q).length := by
      rw [← List.countP_eq_length_filter, ← List.countP_eq_length_filter]
      exact List.countP_mono_left fun x _ => hpq x
    rcases List.mem_cons.1 hx with rfl | hx
    · simp [List.filter_cons, h1, h2]; omega
    · have ih := count_lt (l := l) hpq ⟨x, hx, h1, h2⟩
      simp only [List.filter_cons]
      cases hp : p a
      · cases hq : q a
        · simpa using ih
        · simp; omega
      · rw [hpq a hp]; simpa using ih
theorem lst_lt {L : Nat} {S T : Nat → Prop} (h : ∀ i, S i → T i) (hT : ∀ i, T i → i ≤ L) (hx : ∃ i, T i ∧ ¬ S i) : (lst L S).length < (lst L T).length := by
  classical
  unfold lst
  obtain ⟨i, h1, h2⟩ := hx
  exact count_lt (fun x hx => by simp only [decide_eq_true_eq] at hx ⊢; exact h x hx) ⟨i, List.mem_range.2 (by have := hT i h1; omega), by simpa using h1, by simpa using h2⟩
theorem lst_no {L : Nat} {S : Nat → Prop} (h : ∀ i, ¬ S i) : (lst L S).length = 0 := by
  classical
  unfold lst
  rw [List.length_eq_zero_iff, List.filter_eq_nil_iff]
  intro a _
  simpa using h a
theorem lst_zero {L : Nat} {S : Nat → Prop} (hS : ∀ i, S i → i ≤ L) (h : (lst L S).length = 0) : ∀ i, ¬ S i := fun i hi => by
  have := (mem_lst hS i).2 hi
  rw [List.length_eq_zero_iff.1 h] at this
  cases this
abbrev K0 (S : ByteArray) (t : St) : Nat → Nat → Prop := rel (nx S) S.size (t.kid 0)
/-- The loop of a Rep. -/
structure RepI (S : ByteArray) (t : St) (b : Nat) (A F : Nat → Prop) (w : World) (X T : Nat → Prop) (tb : Nat) (wr : World) : Prop where
  lp : Lp (K0 S t) A F X T
  tp : PS wr tb T
  nm : ¬ mem t tb
  ne : tb ≠ w.heap.size
  re : PS wr b X
  en : PS wr w.heap.size (df (im (K0 S t) X) (im (plus (K0 S t)) A))
  off : Offs (mem t) w wr
  mp : ∀ b, mem t b → IsM wr b
  sv : Sv (nx S) S.size wr (t.kid 0) X
/-- .. behind what is fresh. -/
structure RepJ (S : ByteArray) (t : St) (b : Nat) (A F : Nat → Prop) (w : World) (X T : Nat → Prop) (lb : Nat) (wr : World) : Prop where
  lp : Lp (K0 S t) A F X T
  tp : PS wr lb (df T X)
  nm : ¬ mem t lb
  ne : lb ≠ w.heap.size
  re : PS wr b (un X T)
  en : PS wr w.heap.size (df (im (K0 S t) X) (im (plus (K0 S t)) A))
  off : Offs (mem t) w wr
  mp : ∀ b, mem t b → IsM wr b
  sv : Sv (nx S) S.size wr (t.kid 0) X
/-- .. behind the kid's answer. -/
structure RepK (S : ByteArray) (t : St) (b : Nat) (A F : Nat → Prop) (w : World) (X T : Nat → Prop) (rb : Nat) (wr : World) : Prop where
  lp : Lp (K0 S t) A F X T
  tp : PS wr rb (df (im (K0 S t) (un X T)) (im (K0 S t) X))
  nm : ¬ mem t rb
  ne : rb ≠ w.heap.size
  re : PS wr b (un X T)
  en : PS wr w.heap.size (df (im (K0 S t) X) (im (plus (K0 S t)) A))
  off : Offs (mem t) w wr
  mp : ∀ b, mem t b → IsM wr b
  sv : Sv (nx S) S.size wr (t.kid 0) (un X T)
section
variable {S : ByteArray} {t : St} {b : Nat} {A F X T : Nat → Prop} {w : World} {wr : World}
theorem Lp.bd (h : Lp (K0 S t) A F X T) (hA : ∀ i, A i → i ≤ S.size) (hF : ∀ i, F i → i ≤ S.size) : (∀ i, X i → i ≤ S.size) ∧ ∀ i, T i → i ≤ S.size := by
  have hAF := un_le hA hF
  have H : ∀ i, X i ∨ T i → i ≤ S.size := fun i hi => un_le hAF (im_le (plus_le2 (rel_le _ _ (t.kid 0))) hAF) i (h.top i hi)
  exact ⟨fun i hi => H i (Or.inl hi), fun i hi => H i (Or.inr hi)⟩
theorem RepI.fresh {g o tb : Nat} (h : RepI S t b A F w X T tb wr) (hn : t.n = 1) (hT : Stp (nx S) S.size w t A) (hbm : t.m = some b) (hc : w.cell? ⟨g, o + 6, none⟩ = some (.map t.m)) (hL : S.size ≤ 10000) (hA : ∀ i, A i → i ≤ S.size) (hFb : ∀ i, F i → i ≤ S.size) :
    Calls Try.prog 59 #[.pointer (some ⟨g, o, none⟩), .map (some tb)] wr fun e w' => ∃ lb, e = .returned (.map (some lb)) ∧ RepJ S t b A F w X T lb w' := by
  have hbt : mem t b := (mem_iff t b).2 (Or.inl hbm)
  have hbs := fun b hb => (h.mp b hb).lt
  have hbw := fun b hb => (hT.mp b hb).lt
  have hel := h.en.lt
  obtain ⟨hX, hTb⟩ := h.lp.bd hA hFb
  have hc' := h.off.cell hT.mp hc
  rw [hbm] at hc'
  refine (fresh_any g o b tb S.size _ _ wr hc' (cell_block hc').2 h.re h.tp (fun e => h.nm (e ▸ hbt)) (by omega) hX hTb).mono ?_
  rintro e w' ⟨rfl, hl, hr, hg⟩
  have hne : w.heap.size ≠ b := fun e => by have := hbw b hbt; omega
  refine ⟨_, rfl, h.lp, hl, fun hb => by have := hbs _ hb; omega, by omega, hr, h.en.kept hg (fun e => hne (Option.some.inj e)), h.off.trans (Offs.of hg) (fun x hx => Or.inl (by cases hx; exact hbt)), fun x hx => ?_, ?_⟩
  · by_cases e : x = b
    · subst e; exact hr.ismap
    · exact (h.mp x hx).on (hg.block x (hbs x hx) (fun q => e (Option.some.inj q)))
  · exact h.sv.on (hT.shp.kid (by omega)) fun x hx => hg.block x (hbs x ((mem_iff t x).2 (Or.inr ⟨0, by omega, hx⟩))) (fun e => by cases e; exact hT.sep.own hbm (by omega) hx)
theorem RepJ.ask {lb : Nat} (h : RepJ S t b A F w X T lb wr) (hn : t.n = 1) (hT : Stp (nx S) S.size w t A) (hbm : t.m = some b) (IH : Asks 22 S (t.kid 0)) (hA : ∀ i, A i → i ≤ S.size) (hFb : ∀ i, F i → i ≤ S.size)
    {ga off : Nat} (h7 : At7 w ga off (t.kid 0)) :
    Calls Try.prog 22 #[.pointer (some ⟨ga, off, none⟩), .string S, .map (some lb)] wr fun e w' => ∃ rb, e = .returned (.map (some rb)) ∧ RepK S t b A F w X T rb w' := by
  have h0 : 0 < t.n := by omega
  have hkm : ∀ b, mem (t.kid 0) b → mem t b := fun b hb => (mem_iff t b).2 (Or.inr ⟨0, h0, hb⟩)
  have hbt : mem t b := (mem_iff t b).2 (Or.inl hbm)
  have hst : Stp (nx S) S.size wr (t.kid 0) X := ⟨(((hT.lv.kid h0).offs h.off hT.mp).mono h.off.size), hT.shp.kid h0, hT.sep.kid h0, fun b hb => h.mp b (hkm b hb), h.sv⟩
  obtain ⟨hX, hTb⟩ := h.lp.bd hA hFb
  refine (IH wr ga off lb _ _ (h7.offs h.off hT.mp) hst h.tp (fun hb => h.nm (hkm lb hb)) (fun i hi => hi.2) hX (fun i hi => hTb i hi.1)).mono ?_
  rintro e w' ⟨rb, rfl, hps, hnm, hwh, hoff, hst'⟩
  rw [un_df] at hps hst'
  have hbs := fun b hb => (h.mp b hb).lt
  have hbw := fun b hb => (hT.mp b hb).lt
  have hel := h.en.lt
  have hbk : ¬ mem (t.kid 0) b := hT.sep.own hbm h0
  have hek : ¬ mem (t.kid 0) w.heap.size := fun hb => by have := hbw _ (hkm _ hb); omega
  refine ⟨rb, rfl, h.lp, hps, ?_, ?_, h.re.on (hoff.block _ (hbs b hbt) hbk), h.en.on (hoff.block _ hel hek), h.off.trans hoff fun b hb => Or.inl (hkm b hb), fun b hb => ?_, hst'.sv⟩
  · rcases hwh with rfl | hwh
    · exact h.nm
    · exact fun hb => by have := hbs _ hb; omega
  · rcases hwh with rfl | hwh
    · exact h.ne
    · omega
  · by_cases hb' : mem (t.kid 0) b
    · exact hst'.mp b hb'
    · exact (h.mp b hb).on (hoff.block b (hbs b hb) hb')
theorem RepK.copy {rb : Nat} (h : RepK S t b A F w X T rb wr) (hn : t.n = 1) (hT : Stp (nx S) S.size w t A) (hbm : t.m = some b) (hL : S.size ≤ 10000) (hA : ∀ i, A i → i ≤ S.size) (hFb : ∀ i, F i → i ≤ S.size) :
    Calls Try.prog 58 #[.map (some w.heap.size), .map (some rb)] wr fun e w' => e = .returned (.tuple #[]) ∧ RepI S t b A F w (un X T) (df (im (K0 S t) (un X T)) (im (K0 S t) X)) rb w' := by
  have hbt : mem t b := (mem_iff t b).2 (Or.inl hbm)
  have hbs := fun b hb => (h.mp b hb).lt
  have hbw := fun b hb => (hT.mp b hb).lt
  obtain ⟨hX, hTb⟩ := h.lp.bd hA hFb
  have hXT := un_le hX hTb
  refine (copy_any w.heap.size rb S.size _ _ wr h.en h.tp (fun e => h.ne e.symm) (by omega) (fun i hi => im_le (rel_le _ _ (t.kid 0)) hX i hi.1) (fun i hi => im_le (rel_le _ _ (t.kid 0)) hXT i hi.1)).mono ?_
  rintro e w' ⟨rfl, he, hg⟩
  rw [h.lp.grow] at he
  have hne : ∀ x, mem t x → some x ≠ some w.heap.size := fun x hx e => by have := hbw x hx; have := Option.some.inj e; omega
  refine ⟨rfl, h.lp.step, h.tp.kept hg (fun e => h.ne (Option.some.inj e)), h.nm, h.ne, h.re.kept hg (hne b hbt), he, h.off.trans (Offs.of hg) (fun x hx => Or.inr (by cases hx; exact Nat.le_refl _)), fun x hx => (h.mp x hx).on (hg.block x (hbs x hx) (hne x hx)), ?_⟩
  exact h.sv.on (hT.shp.kid (by omega)) fun x hx => by
    have hx' := (mem_iff t x).2 (Or.inr ⟨0, by omega, hx⟩)
    exact hg.block x (hbs x hx') (hne x hx')
theorem RepI.drew {tb : Nat} (h : RepI S t b A F w X T tb wr) (hT : Stp (nx S) S.size w t A) (hn : t.n = 1) : RepI S t b A F w X T tb wr.drew :=
  ⟨h.lp, h.tp.on rfl, h.nm, h.ne, h.re.on rfl, h.en.on rfl, ⟨h.off.os, h.off.tape, h.off.output, h.off.size, h.off.block⟩, fun b hb => (h.mp b hb).on rfl, Sv.on (w := wr) (w' := wr.drew) (hT.shp.kid (by omega)) (fun _ _ => rfl) h.sv⟩
theorem RepI.start {fb : Nat} (hk : t.k = 5) (hT : Stp (nx S) S.size w t A) (hbm : t.m = some b) (hn : t.n = 1) (hF : PS w fb F) (hfm : ¬ mem t fb) : RepI S t b A F w (un A (im (plus (K0 S t)) A)) F fb (w.alloc (.map #[] 0)) := by
  have hB := alloc_below w (.map #[] 0)
  have hbw := fun b hb => (hT.mp b hb).lt
  have hs := hT.sv
  have hsv : (∃ b, t.m = some b ∧ PS w b (un A (im (plus (K0 S t)) A))) ∧ Sv (nx S) S.size w (t.kid 0) (un A (im (plus (K0 S t)) A)) := by
    cases t with
    | node k s a n cap m kid => exact hs.2.2 hk
    | nul => exact hT.shp.elim
  obtain ⟨⟨b', hb', hps⟩, hkid⟩ := hsv
  obtain rfl : b' = b := by rw [hbm] at hb'; exact (Option.some.inj hb').symm
  have hfl := hF.lt
  refine ⟨Lp.start _ A F, hF.on (hB.block _ hfl), hfm, by omega, hps.on (hB.block _ hps.lt), ?_, (Offs.of (World.grownBy_alloc w _ none)).mono (fun x hx => by cases hx), fun x hx => (hT.mp x hx).on (hB.block x (hbw x hx)), hkid.on (hT.shp.kid (by omega)) fun x hx => hB.block x (hbw x ((mem_iff t x).2 (Or.inr ⟨0, by omega, hx⟩)))⟩
  have e : df (im (K0 S t) (un A (im (plus (K0 S t)) A))) (im (plus (K0 S t)) A) = no0 := by
    rw [im_plus]
    exact ext1 fun i => ⟨fun h => h.2 h.1, False.elim⟩
  rw [e]
  exact PS.made w
theorem RepI.done {fb tb : Nat} (hk : t.k = 5) (hT : Stp (nx S) S.size w t A) (hbm : t.m = some b) (h : RepI S t b A F w X T tb wr) (h0 : ∀ i, ¬ T i) : Ret (nx S) S.size t A F fb w (.returned (.map (some w.heap.size))) wr := by
  have e := h.lp.done h0
  have hen := h.en
  have hre := h.re
  have hsv := h.sv
  rw [e] at hen hre hsv
  rw [im_plus] at hen
  have hbw := fun b hb => (hT.mp b hb).lt
  refine ⟨_, rfl, by rw [rel_rep hk]; exact hen, fun hb => by have := hbw _ hb; omega, Or.inr (Nat.le_refl _), h.off, (hT.lv.offs h.off hT.mp).mono h.off.size, hT.shp, hT.sep, h.mp, ?_⟩
  cases t with
  | node k s a n cap m kid =>
    have : k = 5 := hk
    exact ⟨fun e => by omega, fun e => by omega, fun _ => ⟨⟨b, hbm, hre⟩, hsv⟩⟩
  | nul => exact hT.shp.elim
/-- The loop's measure. -/
def rms (S : ByteArray) (b : Nat) (v : Value) (wr : World) : Nat := 2 * (S.size + 1 - msz wr b) + (if msz wr (mapB v) = 0 then 0 else 1)
theorem rms_lt {tb rb : Nat} {w3 : World} (h : RepI S t b A F w X T tb wr) (h' : RepI S t b A F w (un X T) (df (im (K0 S t) (un X T)) (im (K0 S t) X)) rb w3) (hA : ∀ i, A i → i ≤ S.size) (hFb : ∀ i, F i → i ≤ S.size) (hne : msz wr tb ≠ 0) :
    rms S b (.map (some rb)) w3 < rms S b (.map (some tb)) wr := by
  obtain ⟨hX, hTb⟩ := h.lp.bd hA hFb
  obtain ⟨hX', hTb'⟩ := h'.lp.bd hA hFb
  unfold rms mapB
  rw [if_neg hne, h.re.card hX, h'.re.card hX', h'.tp.card hTb']
  have hb1 := lst_le S.size (un X T)
  by_cases hx : ∃ i, T i ∧ ¬ X i
  · obtain ⟨i, h1, h2⟩ := hx
    have := lst_lt (L := S.size) (S := X) (T := un X T) (fun i hi => Or.inl hi) hX' ⟨i, Or.inr h1, h2⟩
    split <;> omega
  · have e : un X T = X := ext1 fun i => ⟨fun q => q.elim id fun q => Classical.byContradiction fun n => hx ⟨i, q, n⟩, Or.inl⟩
    rw [e, if_pos (lst_no fun i hi => hi.2 hi.1)]
    omega
end
end Go.Proofs.Ytnfchlkdppblfaa
