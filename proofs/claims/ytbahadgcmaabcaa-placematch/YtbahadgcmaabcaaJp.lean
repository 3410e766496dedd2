/- Contract of the document's both of layer 9. -/
import Derived.Test.YtbahadgcmaabcaaJo
import Derived.Test.YtbahadgcmaabcaaMd
import Derived.Deep.CutBlock
namespace Go.Proofs.Ytbahadgcmaabcaa
open Go.RowKit Go
theorem IsL.range {l : List Int} {p : Nat → Bool} (h : IsL l p) {n : Nat} (hn : ∀ i, n ≤ i → p i = false) : ∀ x ∈ l, 0 ≤ x ∧ x < n := fun x hx => by
  obtain ⟨i, rfl, hi⟩ := (h.2 x).1 hx
  refine ⟨by omega, ?_⟩
  by_cases e : n ≤ i
  · rw [hn i e] at hi; cases hi
  · omega
/-- Two cells that stand. -/
theorem two_stand {w w' : World} {a b : Nat} {i j : Nat} {x y : Value} (hb : Below w.heap.size w w') (ha : a < w.heap.size) (hb' : b < w.heap.size) (h1 : w.cell? ⟨a, i, none⟩ = some x) (h2 : w.cell? ⟨b, j, none⟩ = some y) : w'.cell? ⟨a, i, none⟩ = some x ∧ w'.cell? ⟨b, j, none⟩ = some y :=
  ⟨(hb.cell (p := ⟨a, i, none⟩) ha).trans h1, (hb.cell (p := ⟨b, j, none⟩) hb').trans h2⟩
theorem newq {w W' : World} (hg : (w.alloc (.cells pl0 40)).grownBy W' (Value.slice none 0 0).ownBlock) : W'.heap[w.heap.size]? = some (.cells pl0 40 (0, 0)) :=
  (hg.block w.heap.size (by simp) (fun e => by cases e)).trans (heap_alloc_new w _)
theorem newq' {w W' : World} (hg : (w.alloc (.cells pl0 40)).drew.grownBy W' (Value.slice none 0 0).ownBlock) : W'.heap[w.heap.size]? = some (.cells pl0 40 (0, 0)) :=
  (hg.block w.heap.size (by simp) (fun e => by cases e)).trans (heap_alloc_new w _)
/-- A box of places stays, whatever row of sets is appended to. -/
theorem keepq {W W' : World} {base n q : Nat} {v : Value} {xs : List Value} {cs : Array Value} (hown : W.ownsRow base 24 4 v n xs) (hg : W.grownBy W' v.ownBlock) (hq : W.heap[q]? = some (.cells cs 40 (0, 0))) : W'.heap[q]? = some (.cells cs 40 (0, 0)) :=
  (hg.block q (lt_heap hq) fun e => by
    obtain ⟨_, cs', h1⟩ := own_type hown q e.symm
    rw [hq] at h1
    injection h1 with h1
    injection h1 with _ h1 _
    exact absurd h1 (by decide)).trans hq
theorem keepr {W W' : World} {base n q : Nat} {v : Value} {xs : List Value} {cs : Array Value} (hown : W.ownsRow base 37 1 v n xs) (hg : W.grownBy W' v.ownBlock) (hq : W.heap[q]? = some (.cells cs 40 (0, 0))) : W'.heap[q]? = some (.cells cs 40 (0, 0)) :=
  (hg.block q (lt_heap hq) fun e => by
    obtain ⟨_, cs', h1⟩ := own_type hown q e.symm
    rw [hq] at h1
    injection h1 with h1
    injection h1 with _ h1 _
    exact absurd h1 (by decide)).trans hq
theorem bfo_lo {A B : Pl} {i : Nat} (h : i < A.n) (j : Nat) : bfo A B i j = A.fo i j := by unfold bfo; rw [if_pos h]
theorem bfo_hi {A B : Pl} (k : Nat) (j : Nat) : bfo A B (A.n + k) j = sh (B.fo k) A.n j := by unfold bfo; rw [if_neg (by omega), show A.n + k - A.n = k by omega]
/-- One of the two loops of both has come so far. -/
def BoI (w : World) (A B : Pl) (L : List (Nat × Array Value)) (q : Nat) (sv vo : Value) (n : Nat) (W : World) : Prop :=
  ∃ us F, BoX w L q sv (.slice none 0 0) (.slice none 0 0) vo (.bool false) (A.n + B.n) (bset A B) n us F W ∧ ∀ i, i < n → IsL (F i) (bfo A B i)
theorem BoI.below {w : World} {A B : Pl} {L : List (Nat × Array Value)} {q : Nat} {sv vo : Value} {n : Nat} {W W' : World} (h : BoI w A B L q sv vo n W) (hb : Below W.heap.size W W') : BoI w A B L q sv vo n W' := by
  obtain ⟨us, F, h1, h2⟩ := h
  exact ⟨us, F, h1.below hb, h2⟩
/-- What a round needs of it. -/
structure BoR (w : World) (A B : Pl) (L : List (Nat × Array Value)) (q : Nat) (sv vo : Value) (n : Nat) (W : World) : Prop where
  bx : ∀ x ∈ L, W.heap[x.1]? = some (.cells x.2 40 (0, 0))
  c7 : W.heap[q]? = some (.cells #[sv, .slice none 0 0, .slice none 0 0, vo, .bool false] 40 (0, 0))
  bel : Below w.heap.size w W
  svs : ∃ a c, sv = .slice a (A.n + B.n) c
  row : ∃ xs, W.ownsRow w.heap.size 37 1 vo n xs ∧ ∀ (u vo' : Value) (l : List Int) (W1 W' : World), Below W.heap.size W W1 → IL W1 u l → IsL l (bfo A B n) → W'.ownsRow w.heap.size 37 1 vo' (n + 1) (xs ++ [u]) → W1.grownBy W' vo.ownBlock → BoI w A B L q sv vo' (n + 1) (W'.setCell ⟨q, 3, none⟩ vo')
theorem BoI.round {w : World} {A B : Pl} {L : List (Nat × Array Value)} {q : Nat} {sv vo : Value} {n : Nat} {W : World} (h : BoI w A B L q sv vo n W) : BoR w A B L q sv vo n W := by
  obtain ⟨us, F, h1, h2⟩ := h
  refine ⟨fun x hx => (h1.bx x hx).1, h1.c7, h1.bel, row_slice h1.sets, _, h1.rows, fun u vo' l W1 W' hb hu hl hown hg => ⟨_, _, (h1.below hb).addRow u l hu hown hg, fun i hi => ?_⟩⟩
  by_cases e : i = n
  · subst e; rw [if_pos rfl]; exact hl
  · rw [if_neg e]; exact h2 i (by omega)
/-- Both has come to its end. -/
theorem BoI.fin {w : World} {A B : Pl} {L : List (Nat × Array Value)} {q : Nat} {sv vo : Value} {W : World} (h : BoI w A B L q sv vo (A.n + B.n) W) (hL : (w.heap.size + 2, pl0) ∈ L) :
    (put5 W (w.heap.size + 2) sv (.slice none 0 0) (.slice none 0 0) vo (.bool false)).heap[w.heap.size + 2]? = some (.cells (pl5 sv (.slice none 0 0) (.slice none 0 0) vo false) 40 (0, 0)) ∧ BothE w A B (.returned (plV sv (.slice none 0 0) (.slice none 0 0) vo false)) (put5 W (w.heap.size + 2) sv (.slice none 0 0) (.slice none 0 0) vo (.bool false)) := by
  obtain ⟨us, F, h1, h2⟩ := h
  have hq := (h1.bx _ hL).1
  have hg := put5_grown W (w.heap.size + 2) sv (.slice none 0 0) (.slice none 0 0) vo (.bool false)
  have hp : ∀ k, some (w.heap.size + 2) = some k → ∃ cs e', W.heap[k]? = some (.cells cs e' (0, 0)) ∧ e' = 40 := fun k hk => by cases hk; exact ⟨_, _, hq, rfl⟩
  exact ⟨stored5 _ _ _ _ _ hq, sv, vo, us, F, rfl, row_other h1.sets hg fun k hk => by obtain ⟨cs, e', k1, k2⟩ := hp k hk; exact ⟨cs, e', k1, by rw [k2]; decide⟩,
    row_other h1.rows hg fun k hk => by obtain ⟨cs, e', k1, k2⟩ := hp k hk; exact ⟨cs, e', k1, by rw [k2]; decide⟩,
    fun i hi => ⟨il_other (h1.lists i hi) hg fun k hk => by obtain ⟨cs, e', k1, k2⟩ := hp k hk; exact ⟨cs, e', k1, by rw [k2]; decide⟩, h2 i hi⟩, put5_below h1.bel (by omega) _ _ _ _ _⟩
set_option maxRecDepth 100000 in
set_option maxHeartbeats 8000000 in
theorem both_any (A B : Pl) (va vb : Value) (w : World) (ha : PlV w va A) (hb : PlV w vb B) (hn : A.n + B.n ≤ 900) : Calls Try.prog 62 #[va, vb] w (BothE w A B) := by
  obtain ⟨j0, hj, jz0, jz1, jz2⟩ := info_parts info37
  obtain ⟨vs, vf, vl, vo, lf, ll, us, F, rfl, hX⟩ := ha
  obtain ⟨ws, wf, wl, wo, kf, kl, ts, E, rfl, hY⟩ := hb
  obtain ⟨w3, hw3⟩ : ∃ w3, w3 = ((w.alloc (.cells (pl5 vs vf vl vo A.nu) 40)).alloc (.cells (pl5 ws wf wl wo B.nu) 40)).alloc (.cells pl0 40) := ⟨_, rfl⟩
  have hb3 : Below w.heap.size w w3 := by rw [hw3]; exact below_alloc3 _ _ _ _
  obtain ⟨b0, b1, b2⟩ := heap3 w (.cells (pl5 vs vf vl vo A.nu) 40) (.cells (pl5 ws wf wl wo B.nu) 40) (.cells pl0 40)
  rw [← hw3] at b0 b1 b2
  have HX := Lib.hid hX
  have HY := Lib.hid hY
  have HB0 := Lib.hid b0
  have HB1 := Lib.hid b1
  have HB2 := Lib.hid b2
  have HBB := Lib.hid hb3
  obtain ⟨⟨a1, c1, rfl, _⟩, ⟨a2, c2, rfl, _⟩, _, ⟨a3, c3, rfl, _⟩, _, ⟨a4, c4, rfl, _⟩, _, _⟩ := hX
  obtain ⟨⟨d1, e1, rfl, _⟩, ⟨d2, e2, rfl, _⟩, _, ⟨d3, e3, rfl, _⟩, _, ⟨d4, e4, rfl, _⟩, _, _⟩ := hY
  obtain ⟨x0, x1, x2, x3, x4⟩ := cell5 b0
  obtain ⟨y0, y1, y2, y3, y4⟩ := cell5 b1
  have hq0 : w.heap.size < w3.heap.size := lt_heap b0
  have hq1 : w.heap.size + 1 < w3.heap.size := lt_heap b1
  have hq2 : w.heap.size + 2 < w3.heap.size := lt_heap b2
  have HQ := Lib.hid (And.intro hq0 (And.intro hq1 hq2))
  have hww : w.heap.size ≤ w3.heap.size := by omega
  have HSA : Hid (∀ W, Below w3.heap.size w3 W → SL W (.slice a1 A.n c1) A.set A.n) := Lib.hid fun W h => HX.out.sets.below (HBB.out.trans (h.mono hww))
  have HSB : Hid (∀ W, Below w3.heap.size w3 W → SL W (.slice d1 B.n e1) B.set B.n) := Lib.hid fun W h => HY.out.sets.below (HBB.out.trans (h.mono hww))
  have HKP : Hid (∀ W, Below w3.heap.size w3 W → W.cell? ⟨w.heap.size, 0, none⟩ = some (.slice a1 A.n c1) ∧ W.cell? ⟨w.heap.size + 1, 0, none⟩ = some (.slice d1 B.n e1)) := Lib.hid fun W h => two_stand h HQ.out.1 HQ.out.2.1 (cell5 HB0.out).1 (cell5 HB1.out).1
  have HST : Hid (∀ (W : World) (q : Nat) (sv : Value), Below w3.heap.size w3 W → w3.heap.size ≤ q → W.ownsRow w3.heap.size 24 4 sv (A.n + B.n) (flatW A.set A.n ++ flatW B.set B.n) → W.heap[q]? = some (.cells (pl5 sv (.slice none 0 0) (.slice none 0 0) (.slice none 0 0) false) 40 (0, 0)) →
      BoX w [(w.heap.size, pl5 (.slice a1 A.n c1) (.slice a2 lf.length c2) (.slice a3 ll.length c3) (.slice a4 A.n c4) A.nu), (w.heap.size + 1, pl5 (.slice d1 B.n e1) (.slice d2 kf.length e2) (.slice d3 kl.length e3) (.slice d4 B.n e4) B.nu), (w.heap.size + 2, pl0)] q sv (.slice none 0 0) (.slice none 0 0) (.slice none 0 0) (.bool false) (A.n + B.n) (bset A B) 0 us F W) := Lib.hid fun W q sv h hq ho hc =>
    ⟨fun x hx => by
      simp only [List.mem_cons, List.not_mem_nil, or_false] at hx
      rcases hx with rfl | rfl | rfl
      · exact ⟨(h.block _ HQ.out.1).trans HB0.out, by show w.heap.size ≠ q; omega, Nat.le_refl _⟩
      · exact ⟨(h.block _ HQ.out.2.1).trans HB1.out, by show w.heap.size + 1 ≠ q; omega, Nat.le_succ _⟩
      · exact ⟨(h.block _ HQ.out.2.2).trans HB2.out, by show w.heap.size + 2 ≠ q; omega, by show w.heap.size ≤ w.heap.size + 2; omega⟩, hc, by omega, HBB.out.trans (h.mono hww), ownsRow_base (by rw [flatW_append A B B.n (Nat.le_refl _)] at ho; exact ho) hww, World.ownsRow_nil _ _ _ _, fun i hi => absurd hi (Nat.not_lt_zero i)⟩
  clear hb3 b0 b1 b2
  subst hw3
  go_enter Try.func62, Try.ntmps62
  go_upto_region 2 with fail
  obtain ⟨w3, hw3⟩ : ∃ w3, w3 = ((w.alloc (.cells (pl5 (.slice a1 A.n c1) (.slice a2 lf.length c2) (.slice a3 ll.length c3) (.slice a4 A.n c4) A.nu) 40)).alloc (.cells (pl5 (.slice d1 B.n e1) (.slice d2 kf.length e2) (.slice d3 kl.length e3) (.slice d4 B.n e4) B.nu) 40)).alloc (.cells pl0 40) := ⟨_, rfl⟩
  rw [← hw3] at HB0 HB1 HB2 HBB HQ HSA HSB HKP HST x0 y0 hww ⊢
  clear hw3 x1 x2 x3 x4 y1 y2 y3 y4
  have HB0a : Below w3.heap.size w3 w3.drew := (Below.refl _ _).drew
  have HBa : Hid (∀ o, Below w3.heap.size w3 (w3.drew.alloc o)) := Lib.hid fun o => (Below.refl w3.heap.size w3).drew.alloc (Nat.le_refl _) o
  have HBb : Hid (∀ o, Below w3.heap.size w3 (w3.alloc o).drew) := Lib.hid fun o => ((Below.refl w3.heap.size w3).alloc (Nat.le_refl _) o).drew
  have hp0 := HQ.out.1
  have hp1 := HQ.out.2.1
  go_cut [6] from 12 to 18 (fun x6 wc => ∃ (q : Nat) (sv : Value), x6 = .pointer (some ⟨q, 0, none⟩) ∧ Hid (BoX w [(w.heap.size, pl5 (.slice a1 A.n c1) (.slice a2 lf.length c2) (.slice a3 ll.length c3) (.slice a4 A.n c4) A.nu), (w.heap.size + 1, pl5 (.slice d1 B.n e1) (.slice d2 kf.length e2) (.slice d3 kl.length e3) (.slice d4 B.n e4) B.nu), (w.heap.size + 2, pl0)] q sv (.slice none 0 0) (.slice none 0 0) (.slice none 0 0) (.bool false) (A.n + B.n) (bset A B) 0 us F wc))
  case first =>
    go_wp2_with fail
    go_region_held3 (fun w' => w'.cell? ⟨w.heap.size, 0, none⟩ = some (.slice a1 A.n c1) ∧ w'.cell? ⟨w.heap.size + 1, 0, none⟩ = some (.slice d1 B.n e1))
      ((first | with_reducible exact HKP.out _ HB0a | with_reducible exact HKP.out _ (HBa.out _) | with_reducible exact HKP.out _ (HBb.out _) | with_reducible exact HKP.out _ HB4 | with_reducible exact HKP.out _ (HB4.alloc HB4.size _) | with_reducible exact HKP.out _ HB5 | with_reducible exact HKP.out _ (HB5.alloc HB5.size _) | with_reducible exact HKP.out _ (put5_below HB5 (Nat.le_refl _) _ _ _ _ _) | with_reducible exact HKP.out _ (put5_below HB5 HB4.size _ _ _ _ _)))
      (first
        | (refine step_append_sl (by rfl) _ (.tmp 13) (by rfl) w3.heap.size (.slice none 0 0) (.slice a1 A.n c1) 0 A.n [] A.set (by rfl) (World.ownsRow_nil _ _ _ _) (by rfl) (HSA.out _ ?sb) (by omega) ?sz ?_; (case sb => first | exact HB0a | exact HBa.out _ | exact HBb.out _); (case sz => simp); intro v4 w4 hown4 hgr4; simp only [Nat.zero_add, List.nil_append] at hown4; obtain ⟨a14, c14, rfl⟩ := row_slice hown4; have HB4 : Below w3.heap.size w3 w4 := (by first | exact HB0a.grown hgr4 HB0a.size (fun k hk => by cases hk) | exact (HBa.out _).grown hgr4 (HBa.out _).size (fun k hk => by cases hk) | exact (HBb.out _).grown hgr4 (HBb.out _).size (fun k hk => by cases hk)); (first | have Q4 := Lib.hid (newq (w := w3.drew) hgr4) | have Q4 := Lib.hid (newq' (w := w3) hgr4) | skip))
        | (refine step_append_sl (by rfl) (.tmp 14) (.tmp 16) (by rfl) w3.heap.size (.slice a14 A.n c14) (.slice d1 B.n e1) A.n B.n (flatW A.set A.n) B.set ?sv ?so (by rfl) (HSB.out _ ?sb) (by omega) ?sz ?_; (case sv => rfl); (case so => first | exact hown4 | exact hown4.alloc _); (case sb => first | exact HB4 | exact HB4.alloc HB4.size _); (case sz => have := HB4.size; simp; omega); intro v5 w5 hown5 hgr5; obtain ⟨a15, c15, rfl⟩ := row_slice hown5; have HB5 : Below w3.heap.size w3 w5 := (by first | exact HB4.grown hgr5 HB4.size (fun k hk => (own_type hown4 k hk).1) | exact (HB4.alloc HB4.size _).grown hgr5 (by have := HB4.size; simp; omega) (fun k hk => (own_type hown4 k hk).1)); (first | (have Q5 := Lib.hid (keepq (q := w3.heap.size) hown4 hgr5 Q4.out); obtain ⟨z0', z1, z2, z3, z4⟩ := cell5 Q5.out; have f0 := frozen4 Q5.out 0; have f1 := frozen4 Q5.out 1; have f2 := frozen4 Q5.out 2; have f3 := frozen4 Q5.out 3; have f4 := frozen4 Q5.out 4) | (have Q5 := Lib.hid (keepq (q := w4.heap.size) (hown4.alloc _) hgr5 (heap_alloc_new w4 (.cells pl0 40))); obtain ⟨z0', z1, z2, z3, z4⟩ := cell5 Q5.out; have f0 := frozen4 Q5.out 0; have f1 := frozen4 Q5.out 1; have f2 := frozen4 Q5.out 2; have f3 := frozen4 Q5.out 3; have f4 := frozen4 Q5.out 4) | skip)))
    · have HO := Lib.hid (hown5.alloc (.cells (pl5 (.slice a15 (A.n + B.n) c15) (.slice none 0 0) (.slice none 0 0) (.slice none 0 0) false) 40))
      have HZ := Lib.hid (HST.out _ w5.heap.size _ (HB5.alloc HB5.size _) HB5.size HO.out (heap_alloc_new w5 _))
      go_wp2
      go_meet
      exact ⟨_, _, rfl, HZ⟩
    · have HO := Lib.hid (row_other hown5 (put5_grown w5 w4.heap.size (.slice a15 (A.n + B.n) c15) (.slice none 0 0) (.slice none 0 0) (.slice none 0 0) (.bool false)) fun k hk => by cases hk; exact ⟨_, _, Q5.out, by decide⟩)
      have HZ := Lib.hid (HST.out _ w4.heap.size _ (put5_below HB5 HB4.size _ _ _ _ _) HB4.size HO.out (stored5 _ _ _ _ _ Q5.out))
      go_wp2
      go_meet
      exact ⟨_, _, rfl, HZ⟩
    · have HO := Lib.hid (row_other hown5 (put5_grown w5 w3.heap.size (.slice a15 (A.n + B.n) c15) (.slice none 0 0) (.slice none 0 0) (.slice none 0 0) (.bool false)) fun k hk => by cases hk; exact ⟨_, _, Q5.out, by decide⟩)
      have HZ := Lib.hid (HST.out _ w3.heap.size _ (put5_below HB5 (Nat.le_refl _) _ _ _ _ _) (Nat.le_refl _) HO.out (stored5 _ _ _ _ _ Q5.out))
      go_wp2
      go_meet
      exact ⟨_, _, rfl, HZ⟩
  case rest =>
    obtain ⟨q, sv, rfl, HBX⟩ := hcut
    have HI0 : Hid (BoI w A B [(w.heap.size, pl5 (.slice a1 A.n c1) (.slice a2 lf.length c2) (.slice a3 ll.length c3) (.slice a4 A.n c4) A.nu), (w.heap.size + 1, pl5 (.slice d1 B.n e1) (.slice d2 kf.length e2) (.slice d3 kl.length e3) (.slice d4 B.n e4) B.nu), (w.heap.size + 2, pl0)] q sv (.slice none 0 0) 0 wc) := Lib.hid ⟨us, F, HBX.out, fun i hi => absurd hi (Nat.not_lt_zero i)⟩
    obtain ⟨L, hL⟩ : ∃ L, L = [(w.heap.size, pl5 (.slice a1 A.n c1) (.slice a2 lf.length c2) (.slice a3 ll.length c3) (.slice a4 A.n c4) A.nu), (w.heap.size + 1, pl5 (.slice d1 B.n e1) (.slice d2 kf.length e2) (.slice d3 kl.length e3) (.slice d4 B.n e4) B.nu), (w.heap.size + 2, pl0)] := ⟨_, rfl⟩
    have HL0 : Hid ((w.heap.size, pl5 (.slice a1 A.n c1) (.slice a2 lf.length c2) (.slice a3 ll.length c3) (.slice a4 A.n c4) A.nu) ∈ L) := Lib.hid (by rw [hL]; simp)
    have HL1 : Hid ((w.heap.size + 1, pl5 (.slice d1 B.n e1) (.slice d2 kf.length e2) (.slice d3 kl.length e3) (.slice d4 B.n e4) B.nu) ∈ L) := Lib.hid (by rw [hL]; simp)
    have HL2 : Hid ((w.heap.size + 2, pl0) ∈ L) := Lib.hid (by rw [hL]; simp)
    rw [← hL] at HI0
    clear hL HBX HST x0 y0
    obtain ⟨c0, cc1, cc2, c3', cc4⟩ := cell5 (HI0.out.round.bx _ HL0.out)
    go_upto_region 3 with fail
    go_wp2_with fail
    go_loopw [7] (fun c wr => ∃ i : Nat, i ≤ A.n ∧ c = .int .i64 i ∧ ∃ vo, Hid (BoI w A B L q sv vo i wr)) (fun c _ => A.n - (intOf c).toNat)
    case atStart => exact ⟨0, by omega, rfl, _, HI0⟩
    case round =>
      obtain ⟨i, hi, rfl, vo, HI⟩ := hrel
      have HR := Lib.hid HI.out.round
      obtain ⟨z0, z1, z2, z3, z4⟩ := cell5 (HR.out.bx _ HL0.out)
      obtain ⟨xs, hrow, hnext⟩ := HR.out.row
      obtain ⟨av, cv, rfl⟩ := row_slice hrow
      obtain ⟨p0, p1, p2, p3, p4⟩ := cell5 HR.out.c7
      have f3 := frozen4 HR.out.c7 3
      have HW := Lib.hid hrow
      have HNX := Lib.hid hnext
      clear hrow hnext
      by_cases hlt : i < A.n
      · have hlt' : (i : Int) < (A.n : Int) := by omega
        obtain ⟨ao, co, hv, _, _, _, h3⟩ := HX.out.rows
        obtain ⟨ga, oa, ha, ⟨hga, _⟩, hca⟩ := h3 (by omega)
        injection hv with hv1 _ hv3
        rw [hv1, ha] at z3
        have ce := (HR.out.bel.cell (p := ⟨ga, oa + i, none⟩) hga).trans (hca i hlt)
        have HLI := Lib.hid (show IsL (F i) (bfo A B i) from (HX.out.lists i hlt).2.congr fun j => (bfo_lo hlt j).symm)
        obtain ⟨u, hu⟩ : ∃ u, u = us i := ⟨_, rfl⟩
        have hil : IL wr u (F i) := by rw [hu]; exact (HX.out.lists i hlt).1.below HR.out.bel
        rw [← hu] at ce
        have HUI := Lib.hid hil
        obtain ⟨ae, be, rfl, _⟩ := hil
        have hBw : w.heap.size ≤ wr.heap.size := HR.out.bel.size
        have hin : i + 1 ≤ 1000 := by omega
        have pA : ∀ o, (wr.alloc o).cell? ⟨q, 3, none⟩ = some (.slice av i cv) := fun o => ((alloc_below wr o).cell (p := ⟨q, 3, none⟩) (lt_heap HR.out.c7)).trans p3
        have HHV := Lib.hid (And.intro hv1 hv3)
        clear hv1 hv3 h3 hca ha hu p0 p1 p2 p4
        go_wp2_with fail
        go_region_law
          (first
            | (refine step_append_own (by rfl) (.tmp 27) (.tmp 33) 38 (by rfl) w.heap.size 37 j0 _ 1 24 Try.underlying38 hj jz0 jz1 jz2 rfl (by omega) (.slice av i cv) i xs (by rfl) (World.ownsRow.alloc (w := wr.drew) HW.out _) ⟨wr.heap.size, 0, none⟩ 1 1 [.slice ae (F i).length be] (by rfl) (by rfl) (World.news_of_block (cs := #[.slice ae (F i).length be]) (t := 37) (fr := (0, 0)) (heap_alloc_new wr.drew _)) (by simp [Value.oneCell']) (by unfold maxLen; omega) (by omega) (by simp; omega) ?_; intro v1 w1 hown1 hgrow hnil; obtain ⟨x1, y1, rfl⟩ := row_slice hown1; have hgr := grownBy_trans (grownBy_trans (grownBy_drew wr _) (World.grownBy_alloc _ _ _)) hgrow; have K7 := keepr HW.out hgr HR.out.c7; obtain ⟨e0', e1', e2', e3', e4'⟩ := cell5 K7; have g3 := frozen4 K7 3))
        all_goals
          have HN := Lib.hid (HNX.out _ _ _ wr w1 (Below.refl _ _) HUI.out HLI.out hown1 hgr)
          go_wp2
          go_roundw
          case rel => exact ⟨i + 1, by omega, by go_num, _, HN⟩
          case measure => simp [intOf]; omega
      · obtain rfl : A.n = i := by omega
        have HI' : Hid (BoI w A B L q sv (.slice av A.n cv) (A.n + 0) wr) := Lib.hid HI.out
        clear z0 z1 z2 z4 p0 p1 p2 p3 p4 f3 HI HR HW HNX hlt hi
        obtain ⟨y0, y1, y2, y3, y4⟩ := cell5 (HI'.out.round.bx _ HL1.out)
        go_upto_region 8 with fail
        obtain ⟨wo, ho⟩ : ∃ x, x = wr := ⟨wr, rfl⟩
        subst ho
        go_loopw [8] (fun c wr => ∃ k : Nat, k ≤ B.n ∧ c = .int .i64 k ∧ ∃ vo, Hid (BoI w A B L q sv vo (A.n + k) wr)) (fun c _ => B.n - (intOf c).toNat)
        case atStart => exact ⟨0, by omega, rfl, _, HI'⟩
        case round =>
          obtain ⟨k, hk, rfl, vo, HI⟩ := hrel
          have HR := Lib.hid HI.out.round
          obtain ⟨z0, z1, z2, z3', z4⟩ := cell5 (HR.out.bx _ HL1.out)
          obtain ⟨xs, hrow, hnext⟩ := HR.out.row
          obtain ⟨bv, dv, rfl⟩ := row_slice hrow
          obtain ⟨p0, p1, p2, p3, p4⟩ := cell5 HR.out.c7
          have f3 := frozen4 HR.out.c7 3
          have HW := Lib.hid hrow
          have HNX := Lib.hid hnext
          clear hrow hnext z3 y0 y1 y2 y3 y4
          by_cases hlt : k < B.n
          · have hlt' : (k : Int) < (B.n : Int) := by omega
            obtain ⟨ao, co, hv, _, _, _, h3⟩ := HY.out.rows
            obtain ⟨ga, oa, ha, ⟨hga, _⟩, hca⟩ := h3 (by omega)
            injection hv with hv1 _ hv3
            rw [hv1, ha] at z3'
            have ce := (HR.out.bel.cell (p := ⟨ga, oa + k, none⟩) hga).trans (hca k hlt)
            have HLI := Lib.hid (show IsL ((E k).map fun x => x + (A.n : Int)) (bfo A B (A.n + k)) from ((HY.out.lists k hlt).2.moved A.n).congr fun j => (bfo_hi k j).symm)
            have hrg := (HY.out.lists k hlt).2.range (n := B.n) fun i hi => HY.out.ok.fo k i (Or.inr hi)
            have hel := (HY.out.lists k hlt).2.len (n := B.n) fun i hi => HY.out.ok.fo k i (Or.inr hi)
            have HRG := Lib.hid (show (∀ x ∈ E k, 0 ≤ x ∧ x ≤ 1000) ∧ (E k).length ≤ 1000 from ⟨fun x hx => by have := hrg x hx; omega, by omega⟩)
            obtain ⟨u, hu⟩ : ∃ u, u = ts k := ⟨_, rfl⟩
            have hil : IL wr u (E k) := by rw [hu]; exact (HY.out.lists k hlt).1.below HR.out.bel
            rw [← hu] at ce
            have HUI := Lib.hid hil
            obtain ⟨ae, be, rfl, _⟩ := hil
            have hBw : w.heap.size ≤ wr.heap.size := HR.out.bel.size
            have hin : A.n + k + 1 ≤ 1000 := by omega
            have HHV := Lib.hid (And.intro hv1 hv3)
            clear hv1 hv3 h3 hca ha hu p0 p1 p2 p4 hrg hel
            go_wp2_with fail
            go_region_law
              (first
                | (rw [if_pos (by rfl)]; go_simp; go_at_call 63; refine (moved_any (E k) (A.n : Int) _ wr.drew HUI.out (by omega) HRG.out.2 HRG.out.1).mono ?_; rintro e w5 ⟨v5, rfl, hil5, hb5⟩; have HB5 := Lib.hid (undrew hb5); have hil5' := hil5; obtain ⟨a5, b5, rfl, _⟩ := hil5; rw [List.length_map] at hil5'; have HIL5 := Lib.hid hil5'; clear hil5'; have K5 := (HI.out.below HB5.out).round.c7; have r3 := (cell5 K5).2.2.2.1; have rA : ∀ o, (w5.alloc o).cell? ⟨q, 3, none⟩ = some (.slice bv (A.n + k) dv) := fun o => ((alloc_below w5 o).cell (p := ⟨q, 3, none⟩) (lt_heap K5)).trans r3; clear hb5; dsimp only)
                | (refine step_append_own (by rfl) (.tmp 44) (.tmp 52) 38 (by rfl) w.heap.size 37 j0 _ 1 24 Try.underlying38 hj jz0 jz1 jz2 rfl (by omega) (.slice bv (A.n + k) dv) (A.n + k) xs (by rfl) (World.ownsRow.alloc (w := w5) (ownsRow_below HW.out HB5.out) _) ⟨w5.heap.size, 0, none⟩ 1 1 [.slice a5 (E k).length b5] (by rfl) (by rfl) (World.news_of_block (cs := #[.slice a5 (E k).length b5]) (t := 37) (fr := (0, 0)) (heap_alloc_new w5 _)) (by simp [Value.oneCell']) (by unfold maxLen; omega) (by omega) (by have := HB5.out.size; simp; omega) ?_; intro v1 w1 hown1 hgrow hnil; obtain ⟨x1, y1, rfl⟩ := row_slice hown1; have hgr := grownBy_trans (World.grownBy_alloc w5 _ _) hgrow; have K7 := keepr (ownsRow_below HW.out HB5.out) hgr K5; obtain ⟨e0', e1', e2', e3', e4'⟩ := cell5 K7; have g3 := frozen4 K7 3))
            all_goals
              have HN := Lib.hid (HNX.out _ _ _ w5 w1 HB5.out HIL5.out HLI.out hown1 hgr)
              go_wp2
              go_roundw
              case rel => exact ⟨k + 1, by omega, by go_num, _, HN⟩
              case measure => simp [intOf]; omega
          · obtain rfl : B.n = k := by omega
            obtain ⟨sa, sc, rfl⟩ := HR.out.svs
            have HF := Lib.hid (HI.out.fin HL2.out)
            obtain ⟨l0, l1, l2, l3, l4⟩ := cell5 (HR.out.bx _ HL2.out)
            have m0 := frozen4 (HR.out.bx _ HL2.out) 0
            have m1 := frozen4 (HR.out.bx _ HL2.out) 1
            have m2 := frozen4 (HR.out.bx _ HL2.out) 2
            have m3 := frozen4 (HR.out.bx _ HL2.out) 3
            have m4 := frozen4 (HR.out.bx _ HL2.out) 4
            go_wp2
            exact bodyPost_ret (ret5c Try.results62 rfl HF.out.1) rfl HF.out.2
end Go.Proofs.Ytbahadgcmaabcaa
