/- Rows of steps; contract of kidsOf. -/
import Derived.Test.YtnfchlkdppblfaaEm
import Derived.Test.YtnfchlkdppblfaaMg
namespace Go.Proofs.Ytnfchlkdppblfaa
open Go.RowKit Go.Maps Go
def flatS (L : List St) : List Value := L.flatMap cells7
theorem cells7_len (t : St) : (cells7 t).length = 7 := rfl
theorem flatS_append (L M : List St) : flatS (L ++ M) = flatS L ++ flatS M := by simp [flatS]
theorem flatS_one (t : St) : flatS [t] = cells7 t := by simp [flatS]
theorem cells7_one (t : St) : ∀ u ∈ cells7 t, u.oneCell' = true := by
  intro u ht
  simp [cells7] at ht
  rcases ht with rfl | rfl | rfl | rfl | rfl | rfl | rfl <;> rfl
theorem flatS_get : ∀ (L : List St) (i c : Nat), i < L.length → c < 7 → (flatS L)[i * 7 + c]? = (cells7 (L.getD i .nul))[c]?
  | [], i, c, hi, _ => by simp at hi
  | t :: L, 0, c, _, hc => by
    rw [show t :: L = [t] ++ L by rfl, flatS_append, flatS_one, List.getElem?_append_left (by rw [cells7_len]; omega)]
    simp
  | t :: L, i + 1, c, hi, hc => by
    have hi' : i < L.length := by simpa using hi
    have := flatS_get L i c hi' hc
    rw [show t :: L = [t] ++ L by rfl, flatS_append, flatS_one, List.getElem?_append_right (by rw [cells7_len]; omega), cells7_len, show (i + 1) * 7 + c - 7 = i * 7 + c by omega, this]
    simp
theorem at7_of {w : World} {g off : Nat} {L : List St} (h : ∀ j u, (flatS L)[j]? = some u → w.cell? ((⟨g, off, none⟩ : Addr).add j) = some u) {i : Nat} (hi : i < L.length) : At7 w g (off + i * 7) (L.getD i .nul) := by
  have key : ∀ c u, c < 7 → (cells7 (L.getD i .nul))[c]? = some u → w.cell? ⟨g, off + i * 7 + c, none⟩ = some u := fun c u hc hu => by
    have := h (i * 7 + c) u ((flatS_get L i c hi hc).trans hu)
    rw [Addr.add_lit] at this
    rw [← this, Nat.add_assoc]
  exact ⟨key 0 _ (by omega) rfl, key 1 _ (by omega) rfl, key 2 _ (by omega) rfl, key 3 _ (by omega) rfl, key 4 _ (by omega) rfl, key 5 _ (by omega) rfl, key 6 _ (by omega) rfl⟩
abbrev ith (L : List St) (i : Nat) : St := L.getD i .nul
theorem ith_old {L : List St} {u : St} {i : Nat} (h : i < L.length) : ith (L ++ [u]) i = ith L i := by
  simp [ith, List.getD_eq_getElem?_getD, List.getElem?_append_left h]
theorem ith_new {L : List St} {u : St} : ith (L ++ [u]) L.length = u := by
  simp [ith, List.getD_eq_getElem?_getD]
/-- A row of built steps, still growing. -/
structure SRow (B : Nat) (P : Nat → Prop) (base : Nat) (v : Value) (L : List St) (w : World) : Prop where
  own : w.ownsRow base 49 7 v L.length (flatS L)
  ks : ∀ i, i < L.length → Built B (fun g => P g ∧ some g ≠ v.ownBlock) w (ith L i)
  sep : ∀ i j, i < j → j < L.length → ∀ b, mem (ith L i) b → ¬ mem (ith L j) b
  nk : ∀ i, i < L.length → (ith L i).k ≠ 1
theorem SRow.nil (B : Nat) (P : Nat → Prop) (base : Nat) (w : World) : SRow B P base (.slice none 0 0) [] w := ⟨World.ownsRow_nil _ _ _ _, fun i h => by simp at h, fun i j h1 h2 => by simp at h2, fun i h => by simp at h⟩
theorem SRow.below {B : Nat} {P : Nat → Prop} {base : Nat} {v : Value} {L : List St} {w w' : World} (h : SRow B P base v L w) (hb : Below w.heap.size w w') : SRow B P base v L w' :=
  ⟨h.own.kept (grown_of hb) (by cases hv : v.ownBlock <;> simp), fun i hi => (h.ks i hi).below hb, h.sep, h.nk⟩
theorem Built.grow {B : Nat} {P : Nat → Prop} {w w' : World} {t : St} {row : Option Nat} (h : Built B P w t) (hg : w.grownBy w' row) (hP : ∀ g, P g → some g ≠ row) (hr : ∀ b, row = some b → ∃ c e f, w.heap[b]? = some (.cells c e f)) : Built B P w' t := by
  cases row with
  | none => exact h.below ((Below.refl w.heap.size w).grown hg (Nat.le_refl _) (fun j hj => by cases hj))
  | some q =>
    obtain ⟨c, e, f, hq⟩ := hr q rfl
    exact h.put hg (fun g hg e => hP g hg (by rw [e])) hq
theorem SRow.snoc {B : Nat} {P : Nat → Prop} {base : Nat} {v v' : Value} {L : List St} {w w' : World} {u : St} (h : SRow B P base v L w) (hu : Built B (fun g => P g ∧ some g ≠ v.ownBlock) w u) (hd : ∀ i, i < L.length → ∀ b, mem (ith L i) b → ¬ mem u b) (hk : u.k ≠ 1)
    (hown : w'.ownsRow base 49 7 v' (L.length + 1) (flatS L ++ cells7 u)) (hg : w.grownBy w' v.ownBlock) (hat : v'.ownBlock = v.ownBlock ∨ v'.ownBlock = some w.heap.size) : SRow B P base v' (L ++ [u]) w' := by
  have hcell : ∀ b, v.ownBlock = some b → ∃ c e f, w.heap[b]? = some (.cells c e f) := fun b hb => by
    rcases h.own.2 with ⟨rfl, _⟩ | ⟨g, cap, cur, rfl, _, hgg, _⟩
    · cases hb
    · cases hb; exact ⟨_, _, _, hgg⟩
  have H : ∀ t, Built B (fun g => P g ∧ some g ≠ v.ownBlock) w t → Built B (fun g => P g ∧ some g ≠ v'.ownBlock) w' t := fun t ht => by
    have h1 := ht.grow hg (fun g hg => hg.2) hcell
    rcases hat with e | e
    · rw [e]; exact h1
    · have h2 := ht.off (q := w.heap.size) (Nat.le_refl _)
      exact ⟨h2.rw.imp fun g hg => ⟨hg.1.1, by rw [e]; exact fun q => hg.2 (Option.some.inj q)⟩, h1.lv, h1.shp, h1.sep, h1.lo, h1.em⟩
  refine ⟨by rw [flatS_append, flatS_one, List.length_append]; exact hown, fun i hi => ?_, fun i j hij hj b hb => ?_, fun i hi => ?_⟩
  · rcases Nat.lt_or_ge i L.length with q | q
    · rw [ith_old q]; exact H _ (h.ks i q)
    · obtain rfl : i = L.length := by simp at hi; omega
      rw [ith_new]; exact H _ hu
  · have hi : i < L.length := by simp at hj; omega
    rw [ith_old hi] at hb
    rcases Nat.lt_or_ge j L.length with q | q
    · rw [ith_old q]; exact h.sep i j hij q b hb
    · obtain rfl : j = L.length := by simp at hj; omega
      rw [ith_new]; exact hd i hi b hb
  · rcases Nat.lt_or_ge i L.length with q | q
    · rw [ith_old q]; exact h.nk i q
    · obtain rfl : i = L.length := by simp at hi; omega
      rw [ith_new]; exact hk
theorem SRow.krow {B : Nat} {P : Nat → Prop} {base : Nat} {v : Value} {L : List St} {w : World} (h : SRow B P base v L w) (h1 : 1 ≤ L.length) (hP : ∀ g, base ≤ g → P g) : ∃ g cap, v = .slice (some ⟨g, 0, none⟩) L.length cap ∧ KRow B P w g 0 L.length cap (ith L) := by
  have hown := h.own
  rcases h.own.2 with ⟨_, h0⟩ | ⟨g, cap, cur, hv, hb, hg, h3, h4, _⟩
  · omega
  · refine ⟨g, cap, hv, h3, h4, (Array.getElem?_eq_some_iff.1 hg).1, hP g hb, fun i hi => ?_, fun i hi => (h.ks i hi).imp fun g hg => hg.1, h.sep, h.nk⟩
    exact at7_of (fun j u hu => hown.cells (g := g) (by rw [hv]; rfl) j u hu) hi
/-- What written answers for a pattern. -/
def WrOk (S : ByteArray) (t : Tr) : Prop := ∀ (w : World) (P : Nat → Prop), Lives w w.heap.size t → fitT t = true → cnt t ≤ 2000 → (∀ g, w.heap.size ≤ g → P g) →
  Calls Try.prog 19 #[t.val] w fun e w' => ∃ u : St, e = .returned u.val ∧ Built w.heap.size P w' u ∧ rel (nx S) S.size u = mt (nx S) S.size t ∧ (u.k = 1 ↔ sz t = 0) ∧ Below w.heap.size w w'
/-- Behind q of a pattern's kids. -/
structure KidsI (S : ByteArray) (t : Tr) (P : Nat → Prop) (w : World) (q : Nat) (v : Value) (L : List St) (wr : World) : Prop where
  row : SRow w.heap.size P (w.heap.size + 1) v L wr
  bel : Below w.heap.size w wr
  sz : w.heap.size + 1 ≤ wr.heap.size
  len : L.length ≤ q
  ch : chain (fun p => rel (nx S) S.size (ith L p)) L.length = chain (fun p => mt (nx S) S.size (t.kid p)) q
  al : ∀ i j, ((∃ p, p < L.length ∧ rel (nx S) S.size (ith L p) i j) ∨ (L.length < q ∧ i = j)) ↔ ∃ p, p < q ∧ mt (nx S) S.size (t.kid p) i j
  nz : L.length = 0 → ∀ p, p < q → Go.Proofs.Ytnfchlkdppblfaa.sz (t.kid p) = 0
theorem KidsI.skip {S : ByteArray} {t : Tr} {P : Nat → Prop} {w : World} {q : Nat} {v : Value} {L : List St} {wr w1 : World} (h : KidsI S t P w q v L wr) (hb : Below wr.heap.size wr w1) (hz : mt (nx S) S.size (t.kid q) = fun i j => i = j) (hz' : Go.Proofs.Ytnfchlkdppblfaa.sz (t.kid q) = 0) : KidsI S t P w (q + 1) v L w1 where
  row := h.row.below hb
  bel := h.bel.trans (hb.mono h.bel.size)
  sz := Nat.le_trans h.sz hb.size
  len := by have := h.len; omega
  nz h0 p hp := by
    by_cases e : p = q
    · rw [e]; exact hz'
    · exact h.nz h0 p (by omega)
  ch := by
    rw [h.ch]
    exact ext2 fun i j => by
      rw [chain, hz]
      exact ⟨fun h => ⟨j, h, rfl⟩, fun ⟨x, h, e⟩ => by cases e; exact h⟩
  al i j := by
    have := h.al i j
    have hlen := h.len
    constructor
    · rintro (h1 | ⟨_, e⟩)
      · obtain ⟨p, h2, h3⟩ := this.1 (Or.inl h1); exact ⟨p, by omega, h3⟩
      · exact ⟨q, by omega, by rw [hz]; exact e⟩
    · rintro ⟨p, h1, h2⟩
      by_cases e : p = q
      · subst e; rw [hz] at h2; exact Or.inr ⟨by omega, h2⟩
      · rcases this.2 ⟨p, by omega, h2⟩ with h3 | h3
        · exact Or.inl h3
        · exact Or.inr ⟨by omega, h3.2⟩
theorem KidsI.snoc {S : ByteArray} {t : Tr} {P : Nat → Prop} {w : World} {q : Nat} {v v' : Value} {L : List St} {wr w2 w3 : World} {u : St} (h : KidsI S t P w q v L wr) (hb : Below wr.heap.size wr w2) (hu : Built wr.heap.size (fun g => P g ∧ some g ≠ v.ownBlock) w2 u) (hr : rel (nx S) S.size u = mt (nx S) S.size (t.kid q)) (hk : u.k ≠ 1)
    (hown : w3.ownsRow (w.heap.size + 1) 49 7 v' (L.length + 1) (flatS L ++ cells7 u)) (hg : w2.grownBy w3 v.ownBlock) (hat : v'.ownBlock = v.ownBlock ∨ v'.ownBlock = some w2.heap.size) : KidsI S t P w (q + 1) v' (L ++ [u]) w3 where
  row := (h.row.below hb).snoc (hu.low (by have := h.bel.size; omega)) (fun i hi b hb' hbu => by have := lt_of_some ((h.row.ks i hi).em b hb'); have := hu.lo b hbu; omega) hk hown hg hat
  bel := by
    have h2 : Below w.heap.size w w2 := h.bel.trans (hb.mono h.bel.size)
    have hne : ∀ k, k < w.heap.size → some k ≠ v.ownBlock := fun k hk e => by have := (h.row.own.lt _ e.symm).1; omega
    exact h2.trans ⟨hg.os, hg.tape, hg.output, hg.size, fun k hk => hg.block k (by have := h2.size; omega) (hne k hk)⟩
  sz := Nat.le_trans h.sz (Nat.le_trans hb.size hg.size)
  len := by have := h.len; simp; omega
  nz h0 := by simp at h0
  ch := by
    rw [List.length_append]
    refine ext2 fun i j => ?_
    show (∃ x, chain (fun p => rel (nx S) S.size (ith (L ++ [u]) p)) L.length i x ∧ rel (nx S) S.size (ith (L ++ [u]) L.length) x j) ↔ _
    rw [chain_congr (n := L.length) (s := fun p => rel (nx S) S.size (ith L p)) fun p hp => by rw [ith_old hp], h.ch, ith_new, hr]
    exact Iff.rfl
  al i j := by
    have := h.al i j
    have hlen := h.len
    constructor
    · rintro (⟨p, h1, h2⟩ | ⟨h1, e⟩)
      · rcases Nat.lt_or_ge p L.length with h3 | h3
        · rw [ith_old h3] at h2
          obtain ⟨p', h4, h5⟩ := this.1 (Or.inl ⟨p, h3, h2⟩)
          exact ⟨p', by omega, h5⟩
        · obtain rfl : p = L.length := by simp at h1; omega
          rw [ith_new, hr] at h2
          exact ⟨q, by omega, h2⟩
      · obtain ⟨p', h4, h5⟩ := this.1 (Or.inr ⟨by simp at h1; omega, e⟩)
        exact ⟨p', by omega, h5⟩
    · rintro ⟨p, h1, h2⟩
      by_cases e : p = q
      · subst e; exact Or.inl ⟨L.length, by simp, by rw [ith_new, hr]; exact h2⟩
      · rcases this.2 ⟨p, by omega, h2⟩ with ⟨p', h3, h4⟩ | h3
        · exact Or.inl ⟨p', by simp; omega, by rw [ith_old h3]; exact h4⟩
        · exact Or.inr ⟨by simp; omega, h3.2⟩
end Go.Proofs.Ytnfchlkdppblfaa
