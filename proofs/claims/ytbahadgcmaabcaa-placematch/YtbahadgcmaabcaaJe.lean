/- Contract of the builder's addBytes: one place more. -/
import Derived.Test.YtbahadgcmaabcaaJc
import Derived.Test.YtbahadgcmaabcaaLc
import Derived.Deep.CutBlock
namespace Go.Proofs.Ytbahadgcmaabcaa
open Go.RowKit Go
theorem info58s : (Try.prog.info? 58).map (·.size) = some 3 := by kernel_rfl
theorem ret3c {fn : Func} {p : Tmp} (h : fn.results = #[.cell p 58]) {tmps : Array Value} {w : World} {g : Nat} {a b c : Value} (hp : tmps.getD p undef = .pointer (some ⟨g, 0, none⟩)) (hg : w.heap[g]? = some (.cells #[a, b, c] 58 (0, 0))) :
    (results fn tmps).run Try.prog w = .ok (.agg #[a, b, c]) w :=
  results_cell_row h tmps w g 58 _ _ _ hp hg Try.underlying58 rfl info58s
theorem cell3 {w : World} {g e : Nat} {a b c : Value} (h : w.heap[g]? = some (.cells #[a, b, c] e (0, 0))) : w.cell? ⟨g, 0, none⟩ = some a ∧ w.cell? ⟨g, 1, none⟩ = some b ∧ w.cell? ⟨g, 2, none⟩ = some c :=
  ⟨cell_of_row w g 0 _ _ _ h, cell_of_row w g 1 _ _ _ h, cell_of_row w g 2 _ _ _ h⟩
theorem frozen3 {w : World} {g e : Nat} {a b c : Value} (h : w.heap[g]? = some (.cells #[a, b, c] e (0, 0))) : w.frozen? ⟨g, 0, none⟩ = false ∧ w.frozen? ⟨g, 1, none⟩ = false ∧ w.frozen? ⟨g, 2, none⟩ = false :=
  ⟨frozen_of_row _ _ 0 _ _ h, frozen_of_row _ _ 1 _ _ h, frozen_of_row _ _ 2 _ _ h⟩
theorem frozen4 {w : World} {g e : Nat} {cs : Array Value} (h : w.heap[g]? = some (.cells cs e (0, 0))) (i : Nat) : w.frozen? ⟨g, i, none⟩ = false := frozen_of_row _ _ i _ _ h
abbrev put3 (w : World) (g : Nat) (a b c : Value) : World := ((w.setCell ⟨g, 0, none⟩ a).setCell ⟨g, 1, none⟩ b).setCell ⟨g, 2, none⟩ c
theorem stored3 {w : World} {g e : Nat} {a b c : Value} (x y z : Value) (h : w.heap[g]? = some (.cells #[a, b, c] e (0, 0))) : (put3 w g x y z).heap[g]? = some (.cells #[x, y, z] e (0, 0)) := by
  have h1 := heap_setCell_same w g 0 _ _ x h
  have h2 := heap_setCell_same _ g 1 _ _ y h1
  have h3 := heap_setCell_same _ g 2 _ _ z h2
  rw [h3]; simp
theorem put3_grown (w : World) (g : Nat) (a b c : Value) : w.grownBy (put3 w g a b c) (some g) := grownBy_trans (grownBy_trans (grown_set _ _ _ _) (grown_set _ _ _ _)) (grown_set _ _ _ _)
/-- A store into a box of a type that no builder's block has. -/
theorem KT.put3 {B : Nat} {w0 w : World} (h : KT B w0 w) {g : Nat} (hg : w0.heap.size ≤ g) (a b c : Value) : KT B w0 (put3 w g a b c) :=
  ⟨h.os, h.tape, h.output, by have := h.size; simpa using this, fun k hk hc => by
    have hG := put3_grown w g a b c
    exact (hG.block k (Nat.lt_of_lt_of_le hk h.size) fun e => by have := Option.some.inj e; omega).trans (h.block k hk hc)⟩
theorem Bl.kept {B : Nat} {w w' : World} {p : Nat} {G : Gs} {row : Option Nat} (h : Bl B w p G) (hg : w.grownBy w' row) (hne : ∀ k, row = some k → ∃ cs e', w.heap[k]? = some (.cells cs e' (0, 0)) ∧ e' ≠ 3 ∧ e' ≠ 56 ∧ e' ≠ 24 ∧ e' ≠ 37) : Bl B w' p G := by
  obtain ⟨h0, sv, fv, vs, F, h1, h2⟩ := h
  refine ⟨h0, sv, fv, vs, F, ⟨?_, h1.low, ?_, ?_, fun i hi => ?_⟩, h2⟩
  · exact (hg.block p (lt_heap h1.box) fun e => by
      obtain ⟨cs, e', k1, _, k2, _⟩ := hne p e.symm
      rw [h1.box] at k1
      injection k1 with k1
      injection k1 with _ k1 _
      exact k2 k1.symm).trans h1.box
  · exact row_other h1.sets hg fun k hk => by obtain ⟨cs, e', k1, _, _, k2, _⟩ := hne k hk; exact ⟨cs, e', k1, k2⟩
  · exact row_other h1.rows hg fun k hk => by obtain ⟨cs, e', k1, _, _, _, k2⟩ := hne k hk; exact ⟨cs, e', k1, k2⟩
  · exact il_other (h1.lists i hi) hg fun k hk => by obtain ⟨cs, e', k1, k2, _⟩ := hne k hk; exact ⟨cs, e', k1, k2⟩
theorem PtV.kept {w w' : World} {v : Value} {P : Pa} {row : Option Nat} (h : PtV w v P) (hg : w.grownBy w' row) (hne : ∀ k, row = some k → ∃ cs e', w.heap[k]? = some (.cells cs e' (0, 0)) ∧ e' ≠ 3) : PtV w' v P := by
  obtain ⟨vf, vl, lf, ll, h0, h1, h2, h3, h4⟩ := h
  exact ⟨vf, vl, lf, ll, h0, il_other h1 hg hne, h2, il_other h3 hg hne, h4⟩
/-- What is stored into a part's box. -/
theorem fin3 {B : Nat} {w0 w : World} {p : Nat} {G : Gs} {P : Pa} {v : Value} {g : Nat} {a b c : Value} (hb : w.heap[g]? = some (.cells #[a, b, c] 58 (0, 0))) (hg : w0.heap.size ≤ g) (h1 : Bl B w p G) (h2 : PtV w v P) (h3 : KT B w0 w) :
    ∃ vf vl, v = .agg #[vf, vl, .bool P.nu] ∧ (put3 w g vf vl (.bool P.nu)).heap[g]? = some (.cells #[vf, vl, .bool P.nu] 58 (0, 0)) ∧ Bl B (put3 w g vf vl (.bool P.nu)) p G ∧ PtV (put3 w g vf vl (.bool P.nu)) v P ∧ KT B w0 (put3 w g vf vl (.bool P.nu)) := by
  have h2' := h2
  obtain ⟨vf, vl, lf, ll, rfl, _⟩ := h2'
  exact ⟨vf, vl, rfl, stored3 _ _ _ hb, h1.kept (put3_grown _ _ _ _ _) fun k hk => by cases hk; exact ⟨_, _, hb, by decide, by decide, by decide, by decide⟩, h2.kept (put3_grown _ _ _ _ _) fun k hk => by cases hk; exact ⟨_, _, hb, by decide⟩, h3.put3 hg _ _ _⟩
/-- What a method of the builder that adds these places comes to. -/
def AddE (B : Nat) (w : World) (p : Nat) (G : Gs) (P : Pl) (e : Ending) (w' : World) : Prop := ∃ v, e = .returned v ∧ PtV w' v ⟨sh P.fi G.n, sh P.la G.n, P.nu⟩ ∧ Bl B w' p (G.add P) ∧ KT B w w'
theorem info24w : (Try.prog.info? 24).map (fun i => (i.zero, i.size, i.bytes)) = some (some (SV z0), 4, 32) := by kernel_rfl
theorem info37 : (Try.prog.info? 37).map (fun i => (i.zero, i.size, i.bytes)) = some (some (.slice none 0 0), 1, 24) := by kernel_rfl
theorem il_one {w : World} {g : Nat} {x : Int} {f : Nat × Nat} (h : w.heap[g]? = some (.cells #[.int .i64 x] 3 f)) : IL w (.slice (some ⟨g, 0, none⟩) 1 1) [x] :=
  ⟨_, _, rfl, Nat.le_refl _, by unfold maxLen; omega, (fun h => by cases h), fun _ => ⟨g, 0, _, f, rfl, h, fun i hi => by
    obtain rfl : i = 0 := by simpa using hi
    exact cell_of_row w g 0 _ _ _ h⟩⟩
/-- The box of a builder stays. -/
theorem keepP {w w1 : World} {p : Nat} {a b : Value} {row : Option Nat} (h : w.heap[p]? = some (.cells #[a, b] 56 (0, 0))) (hg : w.grownBy w1 row) (hne : some p ≠ row) : w1.cell? ⟨p, 0, none⟩ = some a ∧ w1.cell? ⟨p, 1, none⟩ = some b ∧ w1.frozen? ⟨p, 0, none⟩ = false ∧ w1.frozen? ⟨p, 1, none⟩ = false := by
  have h' := (hg.block p (lt_heap h) hne).trans h
  exact ⟨cell_of_row w1 p 0 _ _ _ h', cell_of_row w1 p 1 _ _ _ h', frozen_of_row _ _ 0 _ _ h', frozen_of_row _ _ 1 _ _ h'⟩
theorem BlX.ne0 {B : Nat} {w : World} {p : Nat} {sv fv : Value} {m : Nat} {set : Nat → Nat → Int} {n : Nat} {vs : Nat → Value} {F : Nat → List Int} (h : BlX B w p sv fv m set n vs F) : some p ≠ sv.ownBlock := fun e => by
  obtain ⟨_, cs, h1⟩ := own_type h.sets p e.symm
  rw [h.box] at h1
  injection h1 with h1
  injection h1 with _ h1 _
  exact absurd h1 (by decide)
theorem BlX.ne1 {B : Nat} {w : World} {p : Nat} {sv fv : Value} {m : Nat} {set : Nat → Nat → Int} {n : Nat} {vs : Nat → Value} {F : Nat → List Int} (h : BlX B w p sv fv m set n vs F) : some p ≠ fv.ownBlock := fun e => by
  obtain ⟨_, cs, h1⟩ := own_type h.rows p e.symm
  rw [h.box] at h1
  injection h1 with h1
  injection h1 with _ h1 _
  exact absurd h1 (by decide)
/-- One place more, with nothing behind it. -/
theorem one_more {B : Nat} {w : World} {p : Nat} {sv fv : Value} {G : Gs} {vs : Nat → Value} {F : Nat → List Int} {s : Nat → Int} {u : Value} (hG : G.Ok) (hF : ∀ i, i < G.n → IsL (F i) (G.fo i)) (h : BlX B w p sv fv (G.n + 1) (fun i => if i < G.n then G.set i else s) (G.n + 1) (fun i => if i = G.n then u else vs i) (fun i => if i = G.n then [] else F i)) : Bl B w p (G.add (Pl.one s)) := by
  refine ⟨hG.add (Pl.ok_one s), sv, fv, _, _, ⟨h.box, h.low, ?_, h.rows, h.lists⟩, fun i hi => ?_⟩
  · have := h.sets
    rwa [flatW_congr (t := (G.add (Pl.one s)).set) fun i hi => ?_] at this
    simp only [Gs.add, Pl.one]
    by_cases e : i < G.n
    · rw [if_pos e, if_pos e]
    · rw [if_neg e, if_neg e, if_pos (by omega)]
  · have hi' : i < G.n + 1 := hi
    by_cases e : i = G.n
    · rw [if_pos e]
      refine isL_nil fun j => ?_
      simp [Gs.add, Pl.one, e]
    · rw [if_neg e]
      refine (hF i (by omega)).congr fun j => ?_
      simp [Gs.add, show i < G.n by omega]
set_option maxRecDepth 100000 in
set_option maxHeartbeats 4000000 in
theorem addBytes_any (B p : Nat) (G : Gs) (s : Nat → Int) (w : World) (h : Bl B w p G) (hB : B ≤ w.heap.size) (hn : G.n ≤ 1000) :
    Calls Try.prog 37 #[.pointer (some ⟨p, 0, none⟩), SV s] w (AddE B w p G (Pl.one s)) := by
  obtain ⟨i0, hi, hz0, hz1, hz2⟩ := info_parts info24w
  obtain ⟨j0, hj, jz0, jz1, jz2⟩ := info_parts info37
  obtain ⟨hG, sv, fv, vs, F, hX, hF⟩ := h
  obtain ⟨w2, hw2⟩ : ∃ w2, w2 = (w.alloc (.cells (row4 s) 24)).alloc (.cells #[.slice none 0 0, .slice none 0 0, .bool false] 58) := ⟨_, rfl⟩
  have hb2 : Below w.heap.size w w2 := by rw [hw2]; exact alloc2_below _ _ _
  have hs2 : w2.heap.size = w.heap.size + 2 := by rw [hw2]; simp
  have HS0 : Hid (w2.heap[w.heap.size]? = some (.cells (row4 s) 24 (0, 0))) := Lib.hid (by rw [hw2]; exact (Below.heap_alloc _ _ _ (by simp)).trans (heap_alloc_new _ _))
  have HR0 : Hid (w2.heap[w.heap.size + 1]? = some (.cells #[.slice none 0 0, .slice none 0 0, .bool false] 58 (0, 0))) := Lib.hid (by rw [hw2]; have := heap_alloc_new (w.alloc (.cells (row4 s) 24)) (.cells #[.slice none 0 0, .slice none 0 0, .bool false] 58); simpa using this)
  have hX2 := hX.below hb2
  obtain ⟨av, cv, rfl⟩ := row_slice hX2.sets
  obtain ⟨bv, ev, rfl⟩ := row_slice hX2.rows
  have HX2 := Lib.hid hX2
  have HF := Lib.hid hF
  have HG := Lib.hid hG
  obtain ⟨c0, c1, f0, f1⟩ := hX.cells
  have hbB := Lib.hid hb2
  have hS2 := Lib.hid hs2
  obtain ⟨d0, d1, g0, g1⟩ := HX2.out.cells
  obtain ⟨s0, s1, s2, s3⟩ := (show _ ∧ _ ∧ _ ∧ _ from ⟨cell4 HS0.out 0 (by omega), cell4 HS0.out 1 (by omega), cell4 HS0.out 2 (by omega), cell4 HS0.out 3 (by omega)⟩)
  have hBw : B ≤ w2.heap.size := by omega
  clear hF hG hX hX2 hb2 hs2
  have HW2 := Lib.hid hw2
  have e0 := HX2.out.cells
  rw [hw2] at e0
  obtain ⟨e0, e1, e2, e3⟩ := e0
  clear hw2
  go_enter Try.func37, Try.ntmps37
  go_wp2_with fail
  rw [← HW2.out]
  clear e0 e1 e2 e3
  have dA : ∀ o, (w2.alloc o).cell? ⟨p, 0, none⟩ = some (.slice av G.n cv) := fun o => ((alloc_below w2 o).cell (p := ⟨p, 0, none⟩) (show p < w2.heap.size from lt_heap HX2.out.box)).trans d0
  go_wp2_with fail
  go_region_law
    (first
      | (refine step_append_own (by rfl) (.tmp 15) (.tmp 17) 36 (by rfl) B 24 i0 _ 4 32 Try.underlying36 hi hz0 hz1 hz2 rfl (by omega) (.slice av G.n cv) G.n (flatW G.set G.n) (by rfl) (World.ownsRow.alloc (w := w2.drew) HX2.out.sets _) ⟨w2.heap.size, 0, none⟩ 1 1 [.int .u64 (s 0), .int .u64 (s 1), .int .u64 (s 2), .int .u64 (s 3)] (by rfl) (by rfl) (World.news_of_block (cs := row4 s) (t := 24) (fr := (0, 0)) (heap_alloc_new w2.drew _)) (by simp [Value.oneCell']) (by unfold maxLen; omega) (by omega) (by simp; omega) ?_; intro v1 w1 hown1 hgrow hnil; obtain ⟨a1, cp1, rfl⟩ := row_slice hown1; have hgr := grownBy_trans (grownBy_trans (grownBy_drew _ _) (World.grownBy_alloc _ _ _)) hgrow; obtain ⟨d0', d1', f0', f1'⟩ := keepP HX2.out.box hgr HX2.out.ne0))
  all_goals
    obtain ⟨hY, hK1⟩ := HX2.out.addSet s hown1 hgr
    have hR1 := hK1.heap HR0.out (by decide) (by decide) (by decide)
    obtain ⟨w3, hw3⟩ : ∃ x, x = w1.setCell ⟨p, 0, none⟩ (.slice a1 (G.n + 1) cp1) := ⟨_, rfl⟩
    rw [← hw3] at hY hK1 hR1 ⊢
    have HY := Lib.hid hY
    have HK := Lib.hid hK1
    have HR1 := Lib.hid hR1
    obtain ⟨c0, c1, f0, f1⟩ := hY.cells
    have hB3 : B ≤ w3.heap.size := Nat.le_trans hBw hK1.size
    have cA : ∀ o, (w3.alloc o).cell? ⟨p, 1, none⟩ = some (.slice bv G.n ev) := fun o => ((alloc_below w3 o).cell (p := ⟨p, 1, none⟩) (show p < w3.heap.size from lt_heap HY.out.box)).trans c1
    clear hw3 hown1 hgr hgrow d0' d1' f0' f1' dA d0 d1 g0 g1 s0 s1 s2 s3 hY hK1 hR1
    go_upto_region 4 with (first
      | (refine wpList_append_own _ rfl (.tmp 25) (.tmp 26) 38 rfl B 37 j0 _ 1 24 Try.underlying38 hj jz0 jz1 jz2 rfl (by decide) _ _ _ rfl (HY.out.rows.alloc _) ⟨w3.heap.size, 0, none⟩ 1 1 [.slice none 0 0] rfl rfl (cell_one_new _ _ _) (by simp [Value.oneCell']) (by unfold maxLen; omega) (by omega) (by simp; omega) ?_; intro v4 w4 hown4 hgrow4 hnil4; obtain ⟨a4, cp4, rfl⟩ := row_slice hown4; have hgr4 := grownBy_trans (World.grownBy_alloc w3 _ _) hgrow4; have HO4 := Lib.hid hown4; have HGR4 := Lib.hid hgr4; obtain ⟨x0, x1, y0, y1⟩ := keepP HY.out.box hgr4 HY.out.ne1))
    obtain ⟨hZ, hK2⟩ := HY.out.addRow (.slice none 0 0) [] (il_nil _) HO4.out HGR4.out
    obtain ⟨w5, hw5⟩ : ∃ x, x = w4.setCell ⟨p, 1, none⟩ (.slice a4 (G.n + 1) cp4) := ⟨_, rfl⟩
    rw [← hw5] at hZ hK2 ⊢
    have hR5 := hK2.heap HR1.out (by decide) (by decide) (by decide)
    have HZ := Lib.hid (one_more HG.out HF.out hZ)
    have HK5 := Lib.hid ((KT.of (B := B) hbB.out).trans (HK.out.trans hK2))
    have HR5 := Lib.hid hR5
    have rC : ∀ o o' i, i < 3 → ((w5.alloc o).alloc o').cell? ⟨w.heap.size + 1, i, none⟩ = w5.cell? ⟨w.heap.size + 1, i, none⟩ := fun o o' i _ => ((alloc2_below w5 o o').cell (p := ⟨w.heap.size + 1, i, none⟩) (lt_heap HR5.out))
    have rF : ∀ o o' i, i < 3 → ((w5.alloc o).alloc o').frozen? ⟨w.heap.size + 1, i, none⟩ = false := fun o o' i _ => ((alloc2_below w5 o o').frozen (p := ⟨w.heap.size + 1, i, none⟩) (lt_heap HR5.out)).trans (frozen4 HR5.out i)
    have k0 := fun o o' => (rC o o' 0 (by omega)).trans (cell3 HR5.out).1
    have k1 := fun o o' => (rC o o' 1 (by omega)).trans (cell3 HR5.out).2.1
    have k2 := fun o o' => (rC o o' 2 (by omega)).trans (cell3 HR5.out).2.2
    have m0 := fun o o' => rF o o' 0 (by omega)
    have m1 := fun o o' => rF o o' 1 (by omega)
    have m2 := fun o o' => rF o o' 2 (by omega)
    clear rC rF hR5 hZ hK2 hw5 x0 x1 y0 y1 c0 c1 f0 f1 cA hgr4 hown4 hgrow4
    go_wp2
    have hb6 := alloc2_below w5 (.cells #[.int .i64 (G.n : Int)] 3) (.cells #[.int .i64 (G.n : Int)] 3)
    have i1 : ((w5.alloc (.cells #[.int .i64 (G.n : Int)] 3)).alloc (.cells #[.int .i64 (G.n : Int)] 3)).heap[w5.heap.size]? = some (.cells #[.int .i64 (G.n : Int)] 3 (0, 0)) := (Below.heap_alloc _ _ _ (by simp)).trans (heap_alloc_new _ _)
    have i2 : ((w5.alloc (.cells #[.int .i64 (G.n : Int)] 3)).alloc (.cells #[.int .i64 (G.n : Int)] 3)).heap[w5.heap.size + 1]? = some (.cells #[.int .i64 (G.n : Int)] 3 (0, 0)) := by
      have := heap_alloc_new (w5.alloc (.cells #[.int .i64 (G.n : Int)] 3)) (.cells #[.int .i64 (G.n : Int)] 3)
      simpa using this
    have hone : ∀ i, sh (Pl.one s).fi G.n i = decide (i = G.n) := fun i => by
      simp only [sh, Pl.one]
      rw [Bool.eq_iff_iff, Bool.and_eq_true]; simp only [decide_eq_true_eq]; omega
    have hpt : PtV ((w5.alloc (.cells #[.int .i64 (G.n : Int)] 3)).alloc (.cells #[.int .i64 (G.n : Int)] 3)) (.agg #[.slice (some ⟨w5.heap.size, 0, none⟩) 1 1, .slice (some ⟨w5.heap.size + 1, 0, none⟩) 1 1, .bool false]) ⟨sh (Pl.one s).fi G.n, sh (Pl.one s).la G.n, (Pl.one s).nu⟩ :=
      ⟨_, _, _, _, rfl, il_one i1, isL_one _ hone, il_one i2, isL_one _ hone⟩
    obtain ⟨vf, vl, he, hbx, hBl, hPt, hKT⟩ := fin3 (w0 := w) ((hb6.block _ (lt_heap HR5.out)).trans HR5.out) (Nat.le_succ _) (HZ.out.below hb6) hpt (HK5.out.trans (KT.of hb6))
    injection he with he
    simp only [Array.mk.injEq, List.cons.injEq, and_true] at he
    obtain ⟨rfl, rfl, _⟩ := he
    exact bodyPost_ret (ret3c Try.results37 rfl hbx) rfl ⟨_, rfl, hPt, hBl, hKT⟩
end Go.Proofs.Ytbahadgcmaabcaa
/- Contract of the builder's link: some places follow some others. -/
namespace Go.Proofs.Ytbahadgcmaabcaa
open Go.RowKit Go
theorem Gs.Ok.link {G : Gs} (h : G.Ok) {l f : Nat → Bool} (hl : ∀ i, G.n ≤ i → l i = false) (hf : ∀ i, G.n ≤ i → f i = false) : (G.link l f).Ok :=
  ⟨h.set, fun i j hij => by
    show (G.fo i j || (l i && f j)) = false
    rw [h.fo i j hij]
    rcases hij with k | k
    · rw [hl i k]; rfl
    · rw [hf j k, Bool.and_false]; rfl⟩
/-- Is a place among the first so many? -/
def inT (l : List Int) (j : Nat) (i : Nat) : Bool := decide ((i : Int) ∈ l.take j)
theorem inT_zero (l : List Int) (i : Nat) : inT l 0 i = false := by simp [inT]
theorem inT_succ {l : List Int} {j q : Nat} (hj : j < l.length) (hq : l.getD j 0 = (q : Int)) (i : Nat) : inT l (j + 1) i = (inT l j i || decide (i = q)) := by
  unfold inT
  rw [List.take_succ_eq_append_getElem hj]
  rw [List.getD_eq_getElem?_getD, List.getElem?_eq_getElem hj] at hq
  simp only [Option.getD_some] at hq
  rw [hq, Bool.eq_iff_iff, Bool.or_eq_true]
  simp only [decide_eq_true_eq, List.mem_append, List.mem_singleton, Int.natCast_inj]
theorem inT_all {l : List Int} {p : Nat → Bool} (h : IsL l p) (i : Nat) : inT l l.length i = p i := by
  unfold inT
  rw [List.take_length, Bool.eq_iff_iff, decide_eq_true_eq, h.2]
  constructor
  · rintro ⟨k, e, hk⟩; rwa [show i = k by omega]
  · intro hp; exact ⟨i, rfl, hp⟩
theorem undrew {w w' : World} (h : Below w.drew.heap.size w.drew w') : Below w.heap.size w w' := ⟨h.os, h.tape, h.output, h.size, h.block⟩
/-- While link runs. -/
structure LkI (B : Nat) (w : World) (p : Nat) (G : Gs) (l : List Int) (fp : Nat → Bool) (j : Nat) (wr : World) : Prop where
  bl : Bl B wr p (G.link (inT l j) fp)
  kt : KT B w wr
/-- One round, as far as the builder goes. -/
structure LkR (B : Nat) (w : World) (p : Nat) (G : Gs) (l : List Int) (fp : Nat → Bool) (j q gf c : Nat) (sv vq : Value) (lq : List Int) (wr : World) : Prop where
  box : wr.heap[p]? = some (.cells #[sv, .slice (some ⟨gf, 0, none⟩) G.n c] 56 (0, 0))
  el : wr.cell? ⟨gf, q, none⟩ = some vq
  fr : wr.frozen? ⟨gf, q, none⟩ = false
  lt : gf < wr.heap.size
  il : IL wr vq lq
  up : lq.Pairwise (· < ·)
  len : lq.length ≤ G.n
  next : ∀ (w' : World) (v' : Value) (lf : List Int), IsL lf fp → Below wr.heap.size wr w' → IL w' v' (mrg lq lf) → LkI B w p G l fp (j + 1) (w'.setCell ⟨gf, q, none⟩ v')
theorem LkI.round {B : Nat} {w : World} {p : Nat} {G : Gs} {l : List Int} {fp : Nat → Bool} {j : Nat} {wr : World} (h : LkI B w p G l fp j wr) {q : Nat} (hj : j < l.length) (hq : l.getD j 0 = (q : Int)) (hqn : q < G.n) (hl : ∀ i, G.n ≤ i → inT l (j + 1) i = false) (hf : ∀ i, G.n ≤ i → fp i = false) :
    ∃ gf c sv vq lq, G.n ≤ c ∧ c ≤ maxLen ∧ LkR B w p G l fp j q gf c sv vq lq wr := by
  obtain ⟨⟨hG, sv, fv, vs, F, hX, hF⟩, hK⟩ := h
  have hX' := hX
  have hrow := hX.rows
  obtain ⟨gf, c, rfl, hgB, hgl, hc1, hc2, hcell⟩ := row_cells hrow (show 0 < G.n by omega)
  have hqn' : q < (G.link (inT l j) fp).n := hqn
  refine ⟨gf, c, sv, vs q, F q, hc1, hc2, hX.box, hcell q _ (rowV_get vs hqn'), hrow.frozenAt q, hgl, hX.lists q hqn', (hF q hqn').1, (hF q hqn').len fun i hi => hG.fo q i (Or.inr hi), fun w' v' lf hlf hb hil => ?_⟩
  obtain ⟨hY, hK2⟩ := (hX.below hb).setRow q v' _ hil
  refine ⟨⟨?_, sv, _, _, _, hY, fun i hi => ?_⟩, hK.trans ((KT.of hb).trans hK2)⟩
  · have h0 : G.Ok := ⟨hG.set, fun i k hik => by
      have := hG.fo i k hik
      simp only [Gs.link, Bool.or_eq_false_iff] at this
      exact this.1⟩
    exact h0.link hl hf
  · have hi' : i < G.n := hi
    by_cases e : i = q
    · subst e
      rw [if_pos rfl]
      refine ((hF i hi').mrg hlf).congr fun k => ?_
      simp only [Gs.link]
      rw [inT_succ hj hq]
      cases G.fo i k <;> cases inT l j i <;> cases fp k <;> simp
    · rw [if_neg e]
      refine (hF i hi').congr fun k => ?_
      simp only [Gs.link]
      rw [inT_succ hj hq, decide_eq_false e, Bool.or_false]
theorem LkR.cells {B : Nat} {w : World} {p : Nat} {G : Gs} {l : List Int} {fp : Nat → Bool} {j q gf c : Nat} {sv vq : Value} {lq : List Int} {wr : World} (h : LkR B w p G l fp j q gf c sv vq lq wr) {w' : World} (hb : Below wr.heap.size wr w') :
    w'.cell? ⟨p, 1, none⟩ = some (.slice (some ⟨gf, 0, none⟩) G.n c) ∧ w'.cell? ⟨gf, q, none⟩ = some vq ∧ w'.frozen? ⟨gf, q, none⟩ = false :=
  ⟨(hb.cell (p := ⟨p, 1, none⟩) (lt_heap h.box)).trans (cell_of_row wr p 1 _ _ _ h.box), (hb.cell (p := ⟨gf, q, none⟩) h.lt).trans h.el, (hb.frozen (p := ⟨gf, q, none⟩) h.lt).trans h.fr⟩
set_option maxRecDepth 100000 in
set_option maxHeartbeats 8000000 in
theorem link_any (B p : Nat) (G : Gs) (l lf : List Int) (lp fp : Nat → Bool) (vl vf : Value) (w : World) (h : Bl B w p G) (hn : G.n ≤ 1000) (hl : IL w vl l) (hlp : IsL l lp) (hl0 : ∀ i, G.n ≤ i → lp i = false) (hf : IL w vf lf) (hfp : IsL lf fp) (hf0 : ∀ i, G.n ≤ i → fp i = false) :
    Calls Try.prog 67 #[.pointer (some ⟨p, 0, none⟩), vl, vf] w fun e w' => e = .returned (.tuple #[]) ∧ Bl B w' p (G.link lp fp) ∧ KT B w w' := by
  have HIL := Lib.hid hl
  have HFL := Lib.hid hf
  have HFP := Lib.hid hfp
  have hlen := hlp.len hl0
  have hlen2 := hfp.len hf0
  have HST : Hid (LkI B w p G l fp 0 w) := Lib.hid ⟨by
    have : G.link (inT l 0) fp = G := Gs.ext' rfl (fun _ => rfl) fun i j => by simp [Gs.link, inT_zero]
    rw [this]; exact h, KT.refl _ _⟩
  have HEN : Hid (∀ W, LkI B w p G l fp l.length W → Bl B W p (G.link lp fp) ∧ KT B w W) := Lib.hid fun W k => ⟨by
    have : G.link (inT l l.length) fp = G.link lp fp := Gs.ext' rfl (fun _ => rfl) fun i j => by simp [Gs.link, inT_all hlp]
    rw [← this]; exact k.bl, k.kt⟩
  have HAT : Hid (∀ j, j < l.length → ∃ q : Nat, l.getD j 0 = (q : Int) ∧ q < G.n ∧ ∀ i, G.n ≤ i → inT l (j + 1) i = false) := Lib.hid fun j hj => by
    have hm : l.getD j 0 ∈ l := by rw [List.getD_eq_getElem?_getD, List.getElem?_eq_getElem hj]; exact List.getElem_mem hj
    obtain ⟨q, e, hq⟩ := (hlp.2 _).1 hm
    refine ⟨q, e, ?_, fun i hi => ?_⟩
    · by_cases k : G.n ≤ q
      · rw [hl0 q k] at hq; cases hq
      · omega
    · unfold inT
      refine decide_eq_false fun hmem => ?_
      obtain ⟨k, e2, hk⟩ := (hlp.2 _).1 (List.mem_of_mem_take hmem)
      rw [show k = i by omega, hl0 i hi] at hk
      cases hk
  have HF0 := Lib.hid hf0
  have HUP := Lib.hid hfp.1
  obtain ⟨al, cl, rfl, l1, l2, _, l3⟩ := hl
  obtain ⟨af, cf, rfl, _⟩ := hf
  have HL3 := Lib.hid l3
  obtain ⟨m, hm⟩ : ∃ m, m = l.length := ⟨_, rfl⟩
  have hm1 : m ≤ 1000 := by omega
  rw [← hm] at HEN HAT HL3 l1 ⊢
  have HM := Lib.hid hm
  unfold maxLen at l2
  clear l3 h hlp hl0 hfp hf0 hlen hm
  go_enter Try.func67, Try.ntmps67
  go_wp2
  go_loopw [10] (fun c wr => ∃ j : Nat, j ≤ m ∧ c = .int .i64 j ∧ Hid (LkI B w p G l fp j wr)) (fun c _ => m - (intOf c).toNat)
  case atStart => exact ⟨0, by omega, rfl, HST⟩
  case round =>
    obtain ⟨j, hj, rfl, HI⟩ := hrel
    by_cases hlt : j < m
    · have hlt' : (j : Int) < (m : Int) := by omega
      obtain ⟨q, hq, hqn, hq0⟩ := HAT.out j hlt
      obtain ⟨gf, c, sv, vq, lq, hc1, hc2, hR⟩ := HI.out.round (q := q) (by rw [← HM.out]; exact hlt) hq hqn hq0 HF0.out
      obtain ⟨gl, ol, cs, f, hal, hgl, hcl⟩ := HL3.out (by omega)
      have cj := hcl j hlt
      rw [hq] at cj
      replace cj := ((HI.out.kt.heap hgl (by decide) (by decide) (by decide)).trans hgl.symm |> World.cell?_of_block (a := ⟨gl, ol + j, none⟩)).trans cj
      have HHAL := Lib.hid hal
      have HR := Lib.hid hR
      obtain ⟨d0, d1, d2⟩ := hR.cells (Below.refl _ wr)
      have hqn1 : (q : Int) < (G.n : Int) := by omega
      have hlq : lq.length + lf.length ≤ 5000 := by have := HR.out.len; omega
      have HLQ := Lib.hid hlq
      have hFL := HFL.out.kt HI.out.kt
      have HFL2 := Lib.hid hFL
      have hcn : (c : Int) ≤ 9223372036854775807 := by unfold maxLen at hc2; omega
      subst hal
      clear hcl hgl hq hR hlq hq0 hFL hc2
      go_wp2_with fail
      go_region_with
        (first
          | (go_at_call 55; refine (merged_any lq lf vq _ wr.drew HR.out.il HFL2.out HR.out.up HUP.out HLQ.out).mono ?_; rintro e w4 ⟨v4, rfl, hil4, hb4⟩; have HIL4 := Lib.hid hil4; obtain ⟨a4, c4, rfl, _⟩ := hil4; obtain ⟨x0, x1, x2⟩ := HR.out.cells (undrew hb4)))
      all_goals
        have HN := Lib.hid (HR.out.next w4 _ lf HFP.out (undrew hb4) HIL4.out)
        go_wp2
        go_roundw
        case rel => exact ⟨j + 1, by omega, by go_num, HN⟩
        case measure => simp [intOf]; omega
    · obtain rfl : m = j := by omega
      have HE := Lib.hid (HEN.out _ HI.out)
      go_wp2
      go_end0
      exact ⟨rfl, HE.out⟩
end Go.Proofs.Ytbahadgcmaabcaa
