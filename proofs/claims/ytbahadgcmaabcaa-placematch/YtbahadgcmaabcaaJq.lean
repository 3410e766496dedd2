/- What the document's cat, alt, again do with the places that both has put together. -/
import Derived.Test.YtbahadgcmaabcaaJp
import Derived.Test.YtbahadgcmaabcaaJe
namespace Go.Proofs.Ytbahadgcmaabcaa
open Go.RowKit Go
/-- Places that are being put together. -/
def BoS (w : World) (m : Nat) (set : Nat → Nat → Int) (fo : Nat → Nat → Bool) (L : List (Nat × Array Value)) (q : Nat) (sv r1 r2 vo r4 : Value) (W : World) : Prop :=
  ∃ us F, BoX w L q sv r1 r2 vo r4 m set m us F W ∧ ∀ i, i < m → IsL (F i) (fo i)
section
variable {w : World} {m : Nat} {set : Nat → Nat → Int} {fo : Nat → Nat → Bool} {L : List (Nat × Array Value)} {q : Nat} {sv r1 r2 vo r4 : Value} {W W' : World}
theorem BoS.below (h : BoS w m set fo L q sv r1 r2 vo r4 W) (hb : Below W.heap.size W W') : BoS w m set fo L q sv r1 r2 vo r4 W' := by
  obtain ⟨us, F, h1, h2⟩ := h
  exact ⟨us, F, h1.below hb, h2⟩
theorem BoS.put (h : BoS w m set fo L q sv r1 r2 vo r4 W) {s1 s2 s4 : Value} (hg : W.grownBy W' (some q)) (h7 : W'.heap[q]? = some (.cells #[sv, s1, s2, vo, s4] 40 (0, 0))) : BoS w m set fo L q sv s1 s2 vo s4 W' := by
  obtain ⟨us, F, h1, h2⟩ := h
  exact ⟨us, F, h1.put hg h7, h2⟩
theorem BoS.congr (h : BoS w m set fo L q sv r1 r2 vo r4 W) {fo' : Nat → Nat → Bool} (he : ∀ i j, fo i j = fo' i j) : BoS w m set fo' L q sv r1 r2 vo r4 W := by
  obtain ⟨us, F, h1, h2⟩ := h
  exact ⟨us, F, h1, fun i hi => (h2 i hi).congr (he i)⟩
theorem BoS.bx (h : BoS w m set fo L q sv r1 r2 vo r4 W) : ∀ x ∈ L, W.heap[x.1]? = some (.cells x.2 40 (0, 0)) := by
  obtain ⟨us, F, h1, h2⟩ := h
  exact fun x hx => (h1.bx x hx).1
theorem BoS.ne (h : BoS w m set fo L q sv r1 r2 vo r4 W) : ∀ x ∈ L, q ≠ x.1 := by
  obtain ⟨us, F, h1, h2⟩ := h
  exact fun x hx e => (h1.bx x hx).2.1 e.symm
theorem BoS.c7 (h : BoS w m set fo L q sv r1 r2 vo r4 W) : W.heap[q]? = some (.cells #[sv, r1, r2, vo, r4] 40 (0, 0)) := by
  obtain ⟨us, F, h1, h2⟩ := h
  exact h1.c7
theorem BoS.bel (h : BoS w m set fo L q sv r1 r2 vo r4 W) : Below w.heap.size w W := by
  obtain ⟨us, F, h1, h2⟩ := h
  exact h1.bel
theorem BoS.forms (h : BoS w m set fo L q sv r1 r2 vo r4 W) : (∃ a c, sv = .slice a m c) ∧ ∃ a c, vo = .slice a m c := by
  obtain ⟨us, F, h1, h2⟩ := h
  exact ⟨row_slice h1.sets, row_slice h1.rows⟩
/-- The answer is written into the box of the call. -/
theorem BoS.fin (h : BoS w m set fo L q sv r1 r2 vo r4 W) {P : Pl} {x : Nat} {cs : Value × Value × Value × Value × Value} (hx : (x, #[cs.1, cs.2.1, cs.2.2.1, cs.2.2.2.1, cs.2.2.2.2]) ∈ L) (hP : P.Ok) (hm : P.n = m) (hs : ∀ i, i < m → P.set i = set i) (hf : ∀ i j, i < m → P.fo i j = fo i j) {lf ll : List Int} (f1 : IL W r1 lf) (f2 : IsL lf P.fi) (l1 : IL W r2 ll) (l2 : IsL ll P.la) :
    (put5 W x sv r1 r2 vo (.bool P.nu)).heap[x]? = some (.cells (pl5 sv r1 r2 vo P.nu) 40 (0, 0)) ∧ PlE w P (.returned (plV sv r1 r2 vo P.nu)) (put5 W x sv r1 r2 vo (.bool P.nu)) := by
  obtain ⟨us, F, h1, h2⟩ := h
  have hq := (h1.bx _ hx).1
  have hlo := (h1.bx _ hx).2.2
  have hg := put5_grown W x sv r1 r2 vo (.bool P.nu)
  have hp : ∀ k, some x = some k → ∃ cs e', W.heap[k]? = some (.cells cs e' (0, 0)) ∧ e' = 40 := fun k hk => by cases hk; exact ⟨_, _, hq, rfl⟩
  have key : ∀ v l, IL W v l → IL (put5 W x sv r1 r2 vo (.bool P.nu)) v l := fun v l hv => il_other hv hg fun k hk => by obtain ⟨cs, e', k1, k2⟩ := hp k hk; exact ⟨cs, e', k1, by rw [k2]; decide⟩
  have hsets := row_other h1.sets hg fun k hk => by obtain ⟨cs, e', k1, k2⟩ := hp k hk; exact ⟨cs, e', k1, by rw [k2]; decide⟩
  have hrows := row_other h1.rows hg fun k hk => by obtain ⟨cs, e', k1, k2⟩ := hp k hk; exact ⟨cs, e', k1, by rw [k2]; decide⟩
  refine ⟨stored5 _ _ _ _ _ hq, _, rfl, ⟨sv, r1, r2, vo, lf, ll, us, F, rfl, ⟨?_, key _ _ f1, f2, key _ _ l1, l2, ?_, fun i hi => ?_, hP⟩⟩, put5_below h1.bel hlo _ _ _ _ _⟩
  · rw [hm]
    have := sl_row hsets
    obtain ⟨a, cap, e1, e2, e3, e4, e5⟩ := this
    exact ⟨a, cap, e1, e2, e3, e4, by rw [flatW_congr (t := set) hs]; exact e5⟩
  · rw [hm]; exact rl_row hrows
  · rw [hm] at hi
    exact ⟨key _ _ (h1.lists i hi), (h2 i hi).congr fun j => (hf i j hi).symm⟩
end
/-- What one round of a loop that links needs. -/
structure BoK (w : World) (m : Nat) (set : Nat → Nat → Int) (fo' : Nat → Nat → Bool) (fp : Nat → Bool) (L : List (Nat × Array Value)) (q : Nat) (sv r1 r2 : Value) (gf c x : Nat) (r4 vx : Value) (lx : List Int) (W : World) : Prop where
  el : W.cell? ⟨gf, x, none⟩ = some vx
  fr : W.frozen? ⟨gf, x, none⟩ = false
  lt : gf < W.heap.size
  lo : w.heap.size ≤ gf
  tp : ∃ cs, W.heap[gf]? = some (.cells cs 37 (0, 0))
  ne : gf ≠ q ∧ ∀ y ∈ L, gf ≠ y.1
  il : IL W vx lx
  up : lx.Pairwise (· < ·)
  len : lx.length ≤ m
  next : ∀ (W1 : World) (v' : Value) (lf : List Int), IsL lf fp → Below W.heap.size W W1 → IL W1 v' (mrg lx lf) → BoS w m set fo' L q sv r1 r2 (.slice (some ⟨gf, 0, none⟩) m c) r4 (W1.setCell ⟨gf, x, none⟩ v')
theorem BoS.round {w : World} {m : Nat} {set : Nat → Nat → Int} {fo : Nat → Nat → Bool} {L : List (Nat × Array Value)} {q : Nat} {sv r1 r2 vo r4 : Value} {W : World} {l : List Int} {fp : Nat → Bool} {j x : Nat} (h : BoS w m set (fun i t => fo i t || (inT l j i && fp t)) L q sv r1 r2 vo r4 W) (hj : j < l.length) (hx : l.getD j 0 = (x : Int)) (hxm : x < m) (hf : ∀ i, m ≤ i → fp i = false) (hfo : ∀ i t, m ≤ t → fo i t = false) :
    ∃ gf c vx lx, vo = .slice (some ⟨gf, 0, none⟩) m c ∧ m ≤ c ∧ c ≤ maxLen ∧ BoK w m set (fun i t => fo i t || (inT l (j + 1) i && fp t)) fp L q sv r1 r2 gf c x r4 vx lx W := by
  obtain ⟨us, F, hX, hF⟩ := h
  obtain ⟨gf, c, rfl, hgB, hgl, hc1, hc2, hcell⟩ := row_cells hX.rows (show 0 < m by omega)
  obtain ⟨_, cs, hgf⟩ := own_type hX.rows gf rfl
  have hne : ∀ b cs', W.heap[b]? = some (Obj.cells cs' 40 (0, 0)) → gf ≠ b := fun b cs' hb e => by
    subst e
    rw [hgf] at hb
    injection hb with hb
    injection hb with _ hb _
    exact absurd hb (by decide)
  refine ⟨gf, c, us x, F x, rfl, hc1, hc2, hcell x _ (rowV_get us hxm), hX.rows.frozenAt x, hgl, hgB, ⟨cs, hgf⟩, ⟨hne _ _ hX.c7, fun y hy => hne _ _ (hX.bx y hy).1⟩, hX.lists x hxm, (hF x hxm).1, (hF x hxm).len fun i hi => by simp [hf i hi, hfo x i hi], fun W1 v' lf hlf hb hil => ?_⟩
  refine ⟨_, _, (hX.below hb).setRow x v' _ hil, fun i hi => ?_⟩
  by_cases e : i = x
  · subst e
    rw [if_pos rfl]
    refine ((hF i hi).mrg hlf).congr fun t => ?_
    simp only
    rw [inT_succ hj hx]
    cases fo i t <;> cases inT l j i <;> cases fp t <;> simp
  · rw [if_neg e]
    refine (hF i hi).congr fun t => ?_
    simp only
    rw [inT_succ hj hx, decide_eq_false e, Bool.or_false]
theorem il_cells2 {w : World} {v : Value} {l : List Int} (h : IL w v l) {w' : World} (hb : Below w.heap.size w w') {i : Nat} (hi : i < l.length) : ∃ g off c, v = .slice (some ⟨g, off, none⟩) l.length c ∧ g < w.heap.size ∧ w'.cell? ⟨g, off + i, none⟩ = some (.int .i64 (l.getD i 0)) := by
  obtain ⟨a, cap, hv, h1, h2, _, h3⟩ := h
  obtain ⟨g, off, cs, f, rfl, hg, hc⟩ := h3 (by omega)
  exact ⟨g, off, cap, hv, lt_heap hg, (hb.cell (p := ⟨g, off + i, none⟩) (lt_heap hg)).trans (hc i hi)⟩
/-- Three cells that stand. -/
theorem three_stand {w w' : World} {a b d i j k : Nat} {x y z : Value} (hb : Below w.heap.size w w') (ha : a < w.heap.size) (hb' : b < w.heap.size) (hd : d < w.heap.size) (h1 : w.cell? ⟨a, i, none⟩ = some x) (h2 : w.cell? ⟨b, j, none⟩ = some y) (h3 : w.cell? ⟨d, k, none⟩ = some z) : w'.cell? ⟨a, i, none⟩ = some x ∧ w'.cell? ⟨b, j, none⟩ = some y ∧ w'.cell? ⟨d, k, none⟩ = some z :=
  ⟨(hb.cell (p := ⟨a, i, none⟩) ha).trans h1, (hb.cell (p := ⟨b, j, none⟩) hb').trans h2, (hb.cell (p := ⟨d, k, none⟩) hd).trans h3⟩
theorem cell_set {w : World} {g x b i : Nat} {u v : Value} (h : w.cell? ⟨b, i, none⟩ = some v) (hne : g ≠ b) : (w.setCell ⟨g, x, none⟩ u).cell? ⟨b, i, none⟩ = some v :=
  (World.cell?_of_block (a := ⟨b, i, none⟩) (Below.heap_setCell _ _ _ _ fun e => hne (show g = b from e.symm))).trans h
theorem il_setB {W W' : World} {g x : Nat} {u v : Value} {l : List Int} (h : IL W' v l) (hb : Below W.heap.size W W') (ht : ∃ cs, W.heap[g]? = some (Obj.cells cs 37 (0, 0))) : IL (W'.setCell ⟨g, x, none⟩ u) v l := by
  obtain ⟨cs, hg⟩ := ht
  exact il_other h (grown_set _ _ _ _) fun k hk => by cases hk; exact ⟨cs, _, (hb.block _ (lt_heap hg)).trans hg, by decide⟩
theorem il_put {W : World} {q c : Nat} {cs : Array Value} {u v : Value} {l : List Int} (h : IL W v l) (hq : W.heap[q]? = some (.cells cs 40 (0, 0))) : IL (W.setCell ⟨q, c, none⟩ u) v l :=
  il_other h (grown_set _ _ _ _) fun k hk => by cases hk; exact ⟨_, _, hq, by decide⟩
theorem put_1 {w : World} {g e : Nat} {a b c d f : Value} (u : Value) (h : w.heap[g]? = some (.cells #[a, b, c, d, f] e (0, 0))) : (w.setCell ⟨g, 1, none⟩ u).heap[g]? = some (.cells #[a, u, c, d, f] e (0, 0)) := by rw [heap_setCell_same _ _ 1 _ _ u h]; simp
theorem put_2 {w : World} {g e : Nat} {a b c d f : Value} (u : Value) (h : w.heap[g]? = some (.cells #[a, b, c, d, f] e (0, 0))) : (w.setCell ⟨g, 2, none⟩ u).heap[g]? = some (.cells #[a, b, u, d, f] e (0, 0)) := by rw [heap_setCell_same _ _ 2 _ _ u h]; simp
theorem put_4 {w : World} {g e : Nat} {a b c d f : Value} (u : Value) (h : w.heap[g]? = some (.cells #[a, b, c, d, f] e (0, 0))) : (w.setCell ⟨g, 4, none⟩ u).heap[g]? = some (.cells #[a, b, c, d, u] e (0, 0)) := by rw [heap_setCell_same _ _ 4 _ _ u h]; simp
theorem sh_zero (p : Nat → Bool) (i : Nat) : sh p 0 i = p i := by simp [sh]
theorem cat_fi {A : Pl} (hA : A.Ok) (B : Pl) (i : Nat) : (A.cat B).fi i = (A.fi i || (A.nu && sh B.fi A.n i)) := by
  have := sh_cat_fi A B hA 0 i
  rw [sh_zero, sh_zero, Nat.zero_add] at this
  exact this.symm
theorem cat_la {A : Pl} (hA : A.Ok) (B : Pl) (i : Nat) : (A.cat B).la i = ((B.nu && A.la i) || sh B.la A.n i) := by
  have := sh_cat_la A B hA 0 i
  rw [sh_zero, sh_zero, Nat.zero_add] at this
  exact this.symm
theorem alt_fi {A : Pl} (hA : A.Ok) (B : Pl) (i : Nat) : (A.alt B).fi i = (A.fi i || sh B.fi A.n i) := by
  have := sh_alt_fi A B hA 0 i
  rw [sh_zero, sh_zero, Nat.zero_add] at this
  exact this.symm
theorem alt_la {A : Pl} (hA : A.Ok) (B : Pl) (i : Nat) : (A.alt B).la i = (A.la i || sh B.la A.n i) := by
  have := sh_alt_la A B hA 0 i
  rw [sh_zero, sh_zero, Nat.zero_add] at this
  exact this.symm
theorem cat_fo {A : Pl} (hA : A.Ok) (B : Pl) (i j : Nat) : (A.cat B).fo i j = (bfo A B i j || (A.la i && sh B.fi A.n j)) := by
  unfold bfo sh
  by_cases h : i < A.n
  · by_cases k : j < A.n
    · simp [Pl.cat, h, k, show ¬ A.n ≤ j by omega]
    · simp [Pl.cat, h, k, show A.n ≤ j by omega, hA.fo i j (Or.inr (by omega))]
  · simp [Pl.cat, h, hA.la i (by omega)]
theorem alt_fo {A : Pl} (hA : A.Ok) (B : Pl) (i j : Nat) : (A.alt B).fo i j = bfo A B i j := by
  unfold bfo sh
  by_cases h : i < A.n
  · by_cases k : j < A.n
    · simp [Pl.alt, h, k]
    · simp [Pl.alt, h, k, hA.fo i j (Or.inr (by omega))]
  · simp [Pl.alt, h]
theorem bfo_out {A B : Pl} (hA : A.Ok) (hB : B.Ok) (i t : Nat) (h : A.n + B.n ≤ t) : bfo A B i t = false := by
  unfold bfo sh
  by_cases k : i < A.n
  · rw [if_pos k]; exact hA.fo i t (Or.inr (by omega))
  · rw [if_neg k, hB.fo _ _ (Or.inr (by omega)), Bool.and_false]
theorem sh_out {p : Nat → Bool} {n m : Nat} (h : ∀ i, m ≤ i → p i = false) (i : Nat) (hi : n + m ≤ i) : sh p n i = false := by
  unfold sh; rw [h _ (by omega), Bool.and_false]
end Go.Proofs.Ytbahadgcmaabcaa
