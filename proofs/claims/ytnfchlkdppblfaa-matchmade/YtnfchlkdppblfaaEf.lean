/- What steps have been asked, in memory: how that is kept where other maps turn. -/
import Derived.Test.YtnfchlkdppblfaaEe
namespace Go.Proofs.Ytnfchlkdppblfaa
open Go.RowKit Go.Maps Go
/-- Of the blocks that were there, only these have turned. -/
structure Offs (M : Nat → Prop) (w w' : World) : Prop where
  os : w'.os = w.os
  tape : w'.tape = w.tape
  output : w'.output = w.output
  size : w.heap.size ≤ w'.heap.size
  block : ∀ k, k < w.heap.size → ¬ M k → w'.heap[k]? = w.heap[k]?
theorem Offs.refl (M : Nat → Prop) (w : World) : Offs M w w := ⟨rfl, rfl, rfl, Nat.le_refl _, fun _ _ _ => rfl⟩
theorem Offs.trans {M M' : Nat → Prop} {w w1 w2 : World} (h : Offs M w w1) (h' : Offs M' w1 w2) (hM : ∀ b, M' b → M b ∨ w.heap.size ≤ b) : Offs M w w2 :=
  ⟨h'.os.trans h.os, h'.tape.trans h.tape, h'.output.trans h.output, Nat.le_trans h.size h'.size, fun k hk hn => (h'.block k (Nat.lt_of_lt_of_le hk h.size) (fun q => (hM k q).elim hn (fun q => by omega))).trans (h.block k hk hn)⟩
theorem Offs.of {w w' : World} {row : Option Nat} (h : w.grownBy w' row) : Offs (fun b => some b = row) w w' := ⟨h.os, h.tape, h.output, h.size, fun k hk hn => h.block k hk hn⟩
theorem Offs.mono {M M' : Nat → Prop} {w w' : World} (h : Offs M w w') (hM : ∀ b, M b → M' b) : Offs M' w w' := ⟨h.os, h.tape, h.output, h.size, fun k hk hn => h.block k hk fun q => hn (hM k q)⟩
theorem Offs.below {M : Nat → Prop} {w w' : World} {B : Nat} (h : Offs M w w') (hB : B ≤ w.heap.size) (hM : ∀ b, M b → B ≤ b) : Below B w w' := ⟨h.os, h.tape, h.output, h.size, fun k hk => h.block k (by omega) fun q => by have := hM k q; omega⟩
def IsM (w : World) (b : Nat) : Prop := ∃ es ck, w.heap[b]? = some (.map es ck)
theorem IsM.lt {w : World} {b : Nat} (h : IsM w b) : b < w.heap.size := by
  obtain ⟨es, ck, h⟩ := h
  rcases Nat.lt_or_ge b w.heap.size with q | q
  · exact q
  · rw [Array.getElem?_eq_none q] at h; cases h
theorem IsM.on {w w' : World} {b : Nat} (h : IsM w b) (hb : w'.heap[b]? = w.heap[b]?) : IsM w' b := by
  obtain ⟨es, ck, h⟩ := h
  exact ⟨es, ck, hb.trans h⟩
theorem cell_block {w : World} {g o : Nat} {v : Value} (h : w.cell? ⟨g, o, none⟩ = some v) : ¬ IsM w g ∧ g < w.heap.size := by
  constructor
  · rintro ⟨es, ck, hm⟩
    simp [World.cell?, hm] at h
  · rcases Nat.lt_or_ge g w.heap.size with q | q
    · exact q
    · simp [World.cell?, Array.getElem?_eq_none q] at h
theorem Offs.cell {M : Nat → Prop} {w w' : World} (h : Offs M w w') (hM : ∀ b, M b → IsM w b) {g o : Nat} {v : Value} (hc : w.cell? ⟨g, o, none⟩ = some v) : w'.cell? ⟨g, o, none⟩ = some v := by
  obtain ⟨h1, h2⟩ := cell_block hc
  exact (World.cell?_of_block (w := w) (h.block g h2 fun q => h1 (hM g q))).trans hc
theorem At7.offs {M : Nat → Prop} {w w' : World} (h : Offs M w w') (hM : ∀ b, M b → IsM w b) {g o : Nat} {t : St} (hc : At7 w g o t) : At7 w' g o t := by
  obtain ⟨h0, h1, h2, h3, h4, h5, h6⟩ := hc
  exact ⟨h.cell hM h0, h.cell hM h1, h.cell hM h2, h.cell hM h3, h.cell hM h4, h.cell hM h5, h.cell hM h6⟩
theorem SLv.offs {M : Nat → Prop} {w w' : World} (h : Offs M w w') (hM : ∀ b, M b → IsM w b) {B : Nat} : ∀ {t : St}, SLv w B t → SLv w' B t
  | .node _ _ _ _ _ _ kid, ⟨hs, h1, h2, hc, hk⟩ => ⟨hs, h1, h2, fun hp => by obtain ⟨g, off, ha, hg, hc⟩ := hc hp; exact ⟨g, off, ha, hg, fun i hi => (hc i hi).offs h hM⟩, fun i hi => SLv.offs h hM (t := kid i) (hk i hi)⟩
  | .nul, h => False.elim h
theorem mem_iff (t : St) (b : Nat) : mem t b ↔ t.m = some b ∨ ∃ i, i < t.n ∧ mem (t.kid i) b := by
  cases t with
  | node => exact Iff.rfl
  | nul => simp [mem, St.m, St.n]
theorem Sep.own {t : St} (h : Sep t) {b : Nat} (hb : t.m = some b) {i : Nat} (hi : i < t.n) : ¬ mem (t.kid i) b := by
  cases t with
  | node => exact h.1 b hb i hi
  | nul => simp [St.n] at hi
theorem Sep.two {t : St} (h : Sep t) {p q : Nat} (hp : p < t.n) (hq : q < t.n) (hne : p ≠ q) {b : Nat} (hb : mem (t.kid p) b) : ¬ mem (t.kid q) b := by
  cases t with
  | node k s a n cap m kid =>
    rcases Nat.lt_or_ge p q with h1 | h1
    · exact h.2.1 p q h1 hq b hb
    · exact fun h2 => h.2.1 q p (by omega) hp b h2 hb
  | nul => simp [St.n] at hp
theorem Sep.kid {t : St} (h : Sep t) {i : Nat} (hi : i < t.n) : Sep (t.kid i) := by
  cases t with
  | node => exact h.2.2 i hi
  | nul => simp [St.n] at hi
theorem Shp.kid {t : St} (h : Shp t) {i : Nat} (hi : i < t.n) : Shp (t.kid i) := by
  cases t with
  | node => exact h.2.2 i hi
  | nul => exact h.elim
theorem Shp.kinds {t : St} (h : Shp t) : t.k = 1 ∨ t.k = 2 ∨ t.k = 3 ∨ (t.k = 4 ∧ 2 ≤ t.n ∧ ((t.kid 1).k = 1 → t.n = 2)) ∨ (t.k = 5 ∧ t.n = 1) := by
  cases t with
  | node => exact h.1
  | nul => exact h.elim
theorem Shp.map {t : St} (h : Shp t) (hk : t.k ≠ 2) : ∃ b, t.m = some b := by
  cases t with
  | node => exact h.2.1 hk
  | nul => exact h.elim
theorem SLv.row {w : World} {B : Nat} {t : St} (h : SLv w B t) (hn : 0 < t.n) : ∃ g off, t.a = some ⟨g, off, none⟩ ∧ g < B ∧ ∀ i, i < t.n → At7 w g (off + i * 7) (t.kid i) := by
  cases t with
  | node => exact h.2.2.2.1 hn
  | nul => exact h.elim
theorem SLv.kid {w : World} {B : Nat} {t : St} (h : SLv w B t) {i : Nat} (hi : i < t.n) : SLv w B (t.kid i) := by
  cases t with
  | node => exact h.2.2.2.2 i hi
  | nul => exact h.elim
theorem SLv.caps {w : World} {B : Nat} {t : St} (h : SLv w B t) : t.n ≤ t.cap ∧ t.cap ≤ maxLen ∧ Wf t.s := by
  cases t with
  | node => exact ⟨h.2.1, h.2.2.1, h.1⟩
  | nul => exact h.elim
/-- What the maps of a step hold, if it has been asked from these places. -/
def Sv (c : Nat → Int) (L : Nat) (w : World) : St → (Nat → Prop) → Prop
  | .node k s a n cap m kid, A =>
    (k = 3 → ∀ q, q < n → Sv c L w (kid q) (im (chain (fun p => rel c L (kid p)) q) A)) ∧
    (k = 4 → (∃ b, m = some b ∧ PS w b (im (rel c L (.node k s a n cap m kid)) A)) ∧ ∀ q, q < n → Sv c L w (kid q) A) ∧
    (k = 5 → (∃ b, m = some b ∧ PS w b (un A (im (plus (rel c L (kid 0))) A))) ∧ Sv c L w (kid 0) (un A (im (plus (rel c L (kid 0))) A)))
  | .nul, _ => False
theorem Sv.on {c : Nat → Int} {L : Nat} {w w' : World} : ∀ {t : St} {A : Nat → Prop}, Shp t → (∀ b, mem t b → w'.heap[b]? = w.heap[b]?) → Sv c L w t A → Sv c L w' t A
  | .node k s a n cap m kid, A, hs, hb, ⟨h3, h4, h5⟩ => by
    have hk : ∀ q, q < n → ∀ b, mem (kid q) b → w'.heap[b]? = w.heap[b]? := fun q hq b h => hb b (Or.inr ⟨q, hq, h⟩)
    refine ⟨fun e q hq => Sv.on (t := kid q) (hs.2.2 q hq) (hk q hq) (h3 e q hq), fun e => ?_, fun e => ?_⟩
    · obtain ⟨⟨b, h1, h2⟩, h6⟩ := h4 e
      exact ⟨⟨b, h1, h2.on (hb b (Or.inl h1))⟩, fun q hq => Sv.on (t := kid q) (hs.2.2 q hq) (hk q hq) (h6 q hq)⟩
    · obtain ⟨⟨b, h1, h2⟩, h6⟩ := h5 e
      have hn : 0 < n := by
        have := hs.1
        omega
      exact ⟨⟨b, h1, h2.on (hb b (Or.inl h1))⟩, Sv.on (t := kid 0) (hs.2.2 0 hn) (hk 0 hn) h6⟩
  | .nul, _, hs, _, _ => hs.elim
/-- A step in memory, that has been asked from these places. -/
structure Stp (c : Nat → Int) (L : Nat) (w : World) (t : St) (A : Nat → Prop) : Prop where
  lv : SLv w w.heap.size t
  shp : Shp t
  sep : Sep t
  mp : ∀ b, mem t b → IsM w b
  sv : Sv c L w t A
theorem chain_le {r : Nat → Nat → Nat → Prop} {L : Nat} : ∀ {n : Nat}, (∀ q, q < n → ∀ i j, r q i j → i ≤ L → j ≤ L) → ∀ i j, chain r n i j → i ≤ L → j ≤ L
  | 0, _, i, j, e, h => by cases e; exact h
  | n + 1, hr, i, j, ⟨x, h1, h2⟩, h => hr n (by omega) x j h2 (chain_le (n := n) (fun q hq => hr q (by omega)) i x h1 h)
theorem pw_le {r : Nat → Nat → Prop} {L : Nat} (hr : ∀ i j, r i j → i ≤ L → j ≤ L) : ∀ q i j, pw r q i j → i ≤ L → j ≤ L
  | 0, i, j, e, h => by cases e; exact h
  | q + 1, i, j, ⟨x, h1, h2⟩, h => hr x j h2 (pw_le hr q i x h1 h)
theorem rel_le (c : Nat → Int) (L : Nat) : ∀ (t : St) (i j : Nat), rel c L t i j → i ≤ L → j ≤ L
  | .node k s a n cap m kid, i, j, h, hi => by
    have IH := fun q => rel_le c L (kid q)
    unfold rel at h
    split at h
    · cases h; exact hi
    · split at h
      · obtain ⟨h1, h2, h3⟩ := h; omega
      · split at h
        · exact chain_le (fun q _ => IH q) i j h hi
        · split at h
          · obtain ⟨q, _, h⟩ := h; exact IH q i j h hi
          · obtain ⟨q, h⟩ := h; exact pw_le (IH 0) (q + 1) i j h hi
  | .nul, _, _, h, _ => h.elim
theorem im_le {r : Nat → Nat → Prop} {L : Nat} {A : Nat → Prop} (hr : ∀ i j, r i j → i ≤ L → j ≤ L) (hA : ∀ i, A i → i ≤ L) : ∀ j, im r A j → j ≤ L := fun j ⟨i, h1, h2⟩ => hr i j h2 (hA i h1)
theorem un_le {L : Nat} {A B : Nat → Prop} (hA : ∀ i, A i → i ≤ L) (hB : ∀ i, B i → i ≤ L) : ∀ i, un A B i → i ≤ L := fun i h => h.elim (hA i) (hB i)
theorem plus_le2 {r : Nat → Nat → Prop} {L : Nat} (hr : ∀ i j, r i j → i ≤ L → j ≤ L) : ∀ i j, plus r i j → i ≤ L → j ≤ L := fun i j ⟨q, h⟩ hi => pw_le hr (q + 1) i j h hi
/-- What asking a step from these places gives. -/
def Ret (c : Nat → Int) (L : Nat) (t : St) (A F : Nat → Prop) (fb : Nat) (w : World) (e : Ending) (w' : World) : Prop :=
  ∃ rb, e = .returned (.map (some rb)) ∧ PS w' rb (df (im (rel c L t) (un A F)) (im (rel c L t) A)) ∧ ¬ mem t rb ∧ (rb = fb ∨ w.heap.size ≤ rb) ∧ Offs (mem t) w w' ∧ Stp c L w' t (un A F)
/-- A call of the step's own answers so, from whatever places it has not been asked. -/
def Asks (f : Nat) (S : ByteArray) (t : St) : Prop := ∀ (w : World) (g o fb : Nat) (A F : Nat → Prop), At7 w g o t → Stp (nx S) S.size w t A → PS w fb F → ¬ mem t fb → (∀ i, F i → ¬ A i) → (∀ i, A i → i ≤ S.size) → (∀ i, F i → i ≤ S.size) →
  Calls Try.prog f #[.pointer (some ⟨g, o, none⟩), .string S, .map (some fb)] w (Ret (nx S) S.size t A F fb w)
end Go.Proofs.Ytnfchlkdppblfaa
