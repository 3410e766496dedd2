/- Contract of the builder's joined: one part behind another. -/
import Derived.Test.YtbahadgcmaabcaaJe
namespace Go.Proofs.Ytbahadgcmaabcaa
open Go.RowKit Go
/-- A part whose places are among the first so many. -/
structure Pa.Le (X : Pa) (n : Nat) : Prop where
  fi : ∀ i, n ≤ i → X.fi i = false
  la : ∀ i, n ≤ i → X.la i = false
/-- One part behind another. -/
def Pa.cat (X Y : Pa) : Pa := ⟨fun i => X.fi i || (X.nu && Y.fi i), fun i => (Y.nu && X.la i) || Y.la i, X.nu && Y.nu⟩
def JoinE (B : Nat) (w : World) (p : Nat) (G : Gs) (P : Pa) (e : Ending) (w' : World) : Prop := ∃ v, e = .returned v ∧ PtV w' v P ∧ Bl B w' p G ∧ KT B w w'
abbrev part0 : Array Value := #[.slice none 0 0, .slice none 0 0, .bool false]
theorem heap3 (w : World) (a b c : Obj) : (((w.alloc a).alloc b).alloc c).heap[w.heap.size]? = some a ∧ (((w.alloc a).alloc b).alloc c).heap[w.heap.size + 1]? = some b ∧ (((w.alloc a).alloc b).alloc c).heap[w.heap.size + 2]? = some c :=
  ⟨heap_alloc3_a _ _ _ _, heap_alloc3_b _ _ _ _, heap_alloc3_c _ _ _ _⟩
theorem KT.grow {B : Nat} {w0 w w' : World} (h : KT B w0 w) {g : Nat} (hG : w.grownBy w' (some g)) (hg : w0.heap.size ≤ g) : KT B w0 w' :=
  ⟨hG.os.trans h.os, hG.tape.trans h.tape, hG.output.trans h.output, Nat.le_trans h.size hG.size, fun k hk hc => (hG.block k (Nat.lt_of_lt_of_le hk h.size) fun e => by have := Option.some.inj e; omega).trans (h.block k hk hc)⟩
theorem set_0 {w : World} {g e : Nat} {a b c : Value} (u : Value) (h : w.heap[g]? = some (.cells #[a, b, c] e (0, 0))) : (w.setCell ⟨g, 0, none⟩ u).heap[g]? = some (.cells #[u, b, c] e (0, 0)) := by rw [heap_setCell_same _ _ 0 _ _ u h]; simp
theorem set_1 {w : World} {g e : Nat} {a b c : Value} (u : Value) (h : w.heap[g]? = some (.cells #[a, b, c] e (0, 0))) : (w.setCell ⟨g, 1, none⟩ u).heap[g]? = some (.cells #[a, u, c] e (0, 0)) := by rw [heap_setCell_same _ _ 1 _ _ u h]; simp
theorem set_2 {w : World} {g e : Nat} {a b c : Value} (u : Value) (h : w.heap[g]? = some (.cells #[a, b, c] e (0, 0))) : (w.setCell ⟨g, 2, none⟩ u).heap[g]? = some (.cells #[a, b, u] e (0, 0)) := by rw [heap_setCell_same _ _ 2 _ _ u h]; simp
/-- While joined runs: the boxes of the two parts, of the answer, of the whole. -/
structure JS (B : Nat) (w : World) (p : Nat) (G : Gs) (q0 : Nat) (bx cx : Array Value) (q : Nat) (r0 r1 r2 : Value) (W : World) : Prop where
  c0 : W.heap[q0]? = some (.cells bx 58 (0, 0))
  c1 : W.heap[q0 + 1]? = some (.cells cx 58 (0, 0))
  c2 : W.heap[q0 + 2]? = some (.cells part0 58 (0, 0))
  c7 : W.heap[q]? = some (.cells #[r0, r1, r2] 58 (0, 0))
  ne : q0 + 2 < q
  kt : KT B w W
  bl : Bl B W p G
  lo : w.heap.size ≤ q0
section
variable {B : Nat} {w : World} {p : Nat} {G : Gs} {q0 : Nat} {bx cx : Array Value} {q : Nat} {r0 r1 r2 : Value} {W W' : World}
theorem JS.below (h : JS B w p G q0 bx cx q r0 r1 r2 W) (hb : Below W.heap.size W W') : JS B w p G q0 bx cx q r0 r1 r2 W' :=
  ⟨(hb.block _ (lt_heap h.c0)).trans h.c0, (hb.block _ (lt_heap h.c1)).trans h.c1, (hb.block _ (lt_heap h.c2)).trans h.c2, (hb.block _ (lt_heap h.c7)).trans h.c7, h.ne, h.kt.trans (KT.of hb), h.bl.below hb, h.lo⟩
theorem JS.set (h : JS B w p G q0 bx cx q r0 r1 r2 W) {s0 s1 s2 : Value} (hg : W.grownBy W' (some q)) (h7 : W'.heap[q]? = some (.cells #[s0, s1, s2] 58 (0, 0))) : JS B w p G q0 bx cx q s0 s1 s2 W' :=
  ⟨(hg.block _ (lt_heap h.c0) fun e => by have := Option.some.inj e; have := h.ne; omega).trans h.c0, (hg.block _ (lt_heap h.c1) fun e => by have := Option.some.inj e; have := h.ne; omega).trans h.c1, (hg.block _ (lt_heap h.c2) fun e => by have := Option.some.inj e; have := h.ne; omega).trans h.c2, h7, h.ne,
    h.kt.grow hg (by have := h.ne; have := h.lo; omega),
    h.bl.kept hg fun k hk => by cases hk; exact ⟨_, _, h.c7, by decide, by decide, by decide, by decide⟩, h.lo⟩
end
set_option maxRecDepth 100000 in
set_option maxHeartbeats 8000000 in
theorem joined54_any (B p : Nat) (G : Gs) (X Y : Pa) (vx vy : Value) (w : World) (h : Bl B w p G) (hn : G.n ≤ 1000) (hx : PtV w vx X) (hy : PtV w vy Y) (hX : X.Le G.n) (hY : Y.Le G.n) :
    Calls Try.prog 54 #[.pointer (some ⟨p, 0, none⟩), vx, vy] w (JoinE B w p (G.link X.la Y.fi) (X.cat Y)) := by
  obtain ⟨xf, xl, xn⟩ := X
  obtain ⟨yf, yl, yn⟩ := Y
  obtain ⟨v1, v2, l1, l2, rfl, i1, s1, i2, s2⟩ := hx
  obtain ⟨u1, u2, m1, m2, rfl, j1, t1, j2, t2⟩ := hy
  obtain ⟨w3, hw3⟩ : ∃ w3, w3 = ((w.alloc (.cells #[v1, v2, .bool xn] 58)).alloc (.cells #[u1, u2, .bool yn] 58)).alloc (.cells part0 58) := ⟨_, rfl⟩
  have hb3 : Below w.heap.size w w3 := by rw [hw3]; exact below_alloc3 _ _ _ _
  obtain ⟨b0, b1, b2⟩ := heap3 w (.cells #[v1, v2, .bool xn] 58) (.cells #[u1, u2, .bool yn] 58) (.cells part0 58)
  rw [← hw3] at b0 b1 b2
  have HB0 := Lib.hid b0
  have HB1 := Lib.hid b1
  have HB2 := Lib.hid b2
  have HLK := Lib.hid (link_any B p G l2 m1 xl yf v2 u1 w3 (h.below hb3) hn (i2.below hb3) s2 hX.la (j1.below hb3) t1 hY.fi)
  have HI1 := Lib.hid i1
  have HI2 := Lib.hid i2
  have HJ1 := Lib.hid j1
  have HJ2 := Lib.hid j2
  have HS := Lib.hid (And.intro s1 (And.intro s2 (And.intro t1 t2)))
  have HL := Lib.hid (show l1.length ≤ 1000 ∧ l2.length ≤ 1000 ∧ m1.length ≤ 1000 ∧ m2.length ≤ 1000 from ⟨by have := s1.len hX.fi; omega, by have := s2.len hX.la; omega, by have := t1.len hY.fi; omega, by have := t2.len hY.la; omega⟩)
  have HBB := Lib.hid hb3
  obtain ⟨a1, c1, rfl, _⟩ := i1
  obtain ⟨a2, c2, rfl, _⟩ := i2
  obtain ⟨a3, c3, rfl, _⟩ := j1
  obtain ⟨a4, c4, rfl, _⟩ := j2
  obtain ⟨x0, x1, x2⟩ := cell3 b0
  obtain ⟨y0, y1, y2⟩ := cell3 b1
  clear h hX hY s1 s2 t1 t2 hb3 b0 b1 b2
  subst hw3
  go_enter Try.func54, Try.ntmps54
  go_wp2_with fail
  refine HLK.out.mono ?_
  rintro e w4 ⟨rfl, hbl4, hk4⟩
  have HBL4 := Lib.hid hbl4
  have HK4 := Lib.hid hk4
  have HC0 := Lib.hid (hk4.heap HB0.out (by decide) (by decide) (by decide))
  have HC1 := Lib.hid (hk4.heap HB1.out (by decide) (by decide) (by decide))
  have HC2 := Lib.hid (hk4.heap HB2.out (by decide) (by decide) (by decide))
  clear x0 x1 x2 y0 y1 y2 hbl4 hk4
  obtain ⟨x0, x1, x2⟩ := cell3 HC0.out
  obtain ⟨y0, y1, y2⟩ := cell3 HC1.out
  cases xn <;> cases yn
  · go_upto_region 3 with fail
    have hb5 := alloc_below w4 (.cells #[.slice a1 l1.length c1, .slice a4 m2.length c4, .bool false] 58)
    have HJ5 : Hid (JS B w p (G.link xl yf) w.heap.size _ _ w4.heap.size (.slice a1 l1.length c1) (.slice a4 m2.length c4) (.bool false) (w4.alloc (.cells #[.slice a1 l1.length c1, .slice a4 m2.length c4, .bool false] 58))) := Lib.hid ⟨(hb5.block _ (lt_heap HC0.out)).trans HC0.out, (hb5.block _ (lt_heap HC1.out)).trans HC1.out, (hb5.block _ (lt_heap HC2.out)).trans HC2.out, heap_alloc_new _ _, lt_heap HC2.out, (KT.of HBB.out).trans (HK4.out.trans (KT.of hb5)), HBL4.out.below hb5, Nat.le_refl _⟩
    obtain ⟨w5, hw5⟩ : ∃ x, x = w4.alloc (.cells #[.slice a1 l1.length c1, .slice a4 m2.length c4, .bool false] 58) := ⟨_, rfl⟩
    rw [← hw5] at HJ5 ⊢
    obtain ⟨q, hq⟩ : ∃ q, q = w4.heap.size := ⟨_, rfl⟩
    rw [← hq] at HJ5 ⊢
    clear hb5 hw5 hq x0 x1 x2 y0 y1 y2
    obtain ⟨x0, x1, x2⟩ := cell3 HJ5.out.c0
    obtain ⟨y0, y1, y2⟩ := cell3 HJ5.out.c1
    obtain ⟨z0', z1, z2⟩ := cell3 HJ5.out.c2
    obtain ⟨f0, f1, f2⟩ := frozen3 HJ5.out.c2
    obtain ⟨q0, q1, q2⟩ := cell3 HJ5.out.c7
    obtain ⟨g0, g1, g2⟩ := frozen3 HJ5.out.c7
    have HP : Hid (PtV w5 _ (Pa.cat ⟨xf, xl, false⟩ ⟨yf, yl, false⟩)) := Lib.hid ⟨_, _, _, _, rfl, (HI1.out.kt HJ5.out.kt), (HS.out.1.congr fun i => by simp [Pa.cat]), (HJ2.out.kt HJ5.out.kt), (HS.out.2.2.2.congr fun i => by simp [Pa.cat])⟩
    have HFN := Lib.hid (fin3 (w0 := w) HJ5.out.c2 (by omega) HJ5.out.bl HP.out HJ5.out.kt)
    go_wp2
    obtain ⟨vf, vl, he, hbx, hBl, hPt, hKT⟩ := HFN.out
    injection he with he
    simp only [Array.mk.injEq, List.cons.injEq, and_true] at he
    obtain ⟨rfl, rfl, _⟩ := he
    exact bodyPost_ret (ret3c Try.results54 rfl hbx) rfl ⟨_, rfl, hPt, hBl, hKT⟩
  · go_upto_region 3 with fail
    have hb5 := alloc_below w4 (.cells #[.slice a1 l1.length c1, .slice a4 m2.length c4, .bool false] 58)
    have HJ5 : Hid (JS B w p (G.link xl yf) w.heap.size _ _ w4.heap.size (.slice a1 l1.length c1) (.slice a4 m2.length c4) (.bool false) (w4.alloc (.cells #[.slice a1 l1.length c1, .slice a4 m2.length c4, .bool false] 58))) := Lib.hid ⟨(hb5.block _ (lt_heap HC0.out)).trans HC0.out, (hb5.block _ (lt_heap HC1.out)).trans HC1.out, (hb5.block _ (lt_heap HC2.out)).trans HC2.out, heap_alloc_new _ _, lt_heap HC2.out, (KT.of HBB.out).trans (HK4.out.trans (KT.of hb5)), HBL4.out.below hb5, Nat.le_refl _⟩
    obtain ⟨w5, hw5⟩ : ∃ x, x = w4.alloc (.cells #[.slice a1 l1.length c1, .slice a4 m2.length c4, .bool false] 58) := ⟨_, rfl⟩
    rw [← hw5] at HJ5 ⊢
    obtain ⟨q, hq⟩ : ∃ q, q = w4.heap.size := ⟨_, rfl⟩
    rw [← hq] at HJ5 ⊢
    clear hb5 hw5 hq x0 x1 x2 y0 y1 y2
    obtain ⟨x0, x1, x2⟩ := cell3 HJ5.out.c0
    obtain ⟨y0, y1, y2⟩ := cell3 HJ5.out.c1
    obtain ⟨z0', z1, z2⟩ := cell3 HJ5.out.c2
    obtain ⟨f0, f1, f2⟩ := frozen3 HJ5.out.c2
    obtain ⟨q0, q1, q2⟩ := cell3 HJ5.out.c7
    obtain ⟨g0, g1, g2⟩ := frozen3 HJ5.out.c7
    go_wp2_with fail
    refine (merged_any l2 m2 _ _ w5 (HI2.out.kt HJ5.out.kt) (HJ2.out.kt HJ5.out.kt) HS.out.2.1.1 HS.out.2.2.2.1 (by have := HL.out; omega)).mono ?_
    rintro e w8 ⟨v8, rfl, hil, hb⟩
    have Ht := Lib.hid hil
    have HJ8 := Lib.hid (HJ5.out.below hb)
    have HB8 := Lib.hid hb
    obtain ⟨ta, tc, rfl, _⟩ := hil
    clear hb
    clear x0 x1 x2 y0 y1 y2 z0' z1 z2 f0 f1 f2 q0 q1 q2 g0 g1 g2
    obtain ⟨x0, x1, x2⟩ := cell3 HJ8.out.c0
    obtain ⟨y0, y1, y2⟩ := cell3 HJ8.out.c1
    obtain ⟨z0', z1, z2⟩ := cell3 HJ8.out.c2
    obtain ⟨f0, f1, f2⟩ := frozen3 HJ8.out.c2
    obtain ⟨q0, q1, q2⟩ := cell3 HJ8.out.c7
    obtain ⟨g0, g1, g2⟩ := frozen3 HJ8.out.c7
    go_upto_region 7 with fail
    obtain ⟨w9, hw⟩ : ∃ x, x = w8.setCell ⟨q, 1, none⟩ (.slice ta (mrg l2 m2).length tc) := ⟨_, rfl⟩
    have HG9 := Lib.hid (grown_set w8 q 1 (.slice ta (mrg l2 m2).length tc))
    have HT9 := Lib.hid (set_1 (.slice ta (mrg l2 m2).length tc) HJ8.out.c7)
    rw [← hw] at HG9 HT9 ⊢
    have HJ9 := Lib.hid (HJ8.out.set HG9.out HT9.out)
    have Ht' := Lib.hid (il_other Ht.out HG9.out fun k hk => by cases hk; exact ⟨_, _, HJ8.out.c7, by decide⟩)
    clear hw
    clear x0 x1 x2 y0 y1 y2 z0' z1 z2 f0 f1 f2 q0 q1 q2 g0 g1 g2
    obtain ⟨x0, x1, x2⟩ := cell3 HJ9.out.c0
    obtain ⟨y0, y1, y2⟩ := cell3 HJ9.out.c1
    obtain ⟨z0', z1, z2⟩ := cell3 HJ9.out.c2
    obtain ⟨f0, f1, f2⟩ := frozen3 HJ9.out.c2
    obtain ⟨q0, q1, q2⟩ := cell3 HJ9.out.c7
    obtain ⟨g0, g1, g2⟩ := frozen3 HJ9.out.c7
    have HP : Hid (PtV w9 _ (Pa.cat ⟨xf, xl, false⟩ ⟨yf, yl, true⟩)) := Lib.hid ⟨_, _, _, _, rfl, (HI1.out.kt HJ9.out.kt), (HS.out.1.congr fun i => by simp [Pa.cat]), Ht'.out, ((HS.out.2.1.mrg HS.out.2.2.2).congr fun i => by simp [Pa.cat])⟩
    have HFN := Lib.hid (fin3 (w0 := w) HJ9.out.c2 (by omega) HJ9.out.bl HP.out HJ9.out.kt)
    go_wp2
    obtain ⟨vf, vl, he, hbx, hBl, hPt, hKT⟩ := HFN.out
    injection he with he
    simp only [Array.mk.injEq, List.cons.injEq, and_true] at he
    obtain ⟨rfl, rfl, _⟩ := he
    exact bodyPost_ret (ret3c Try.results54 rfl hbx) rfl ⟨_, rfl, hPt, hBl, hKT⟩
  · go_upto_region 3 with fail
    have hb5 := alloc_below w4 (.cells #[.slice a1 l1.length c1, .slice a4 m2.length c4, .bool false] 58)
    have HJ5 : Hid (JS B w p (G.link xl yf) w.heap.size _ _ w4.heap.size (.slice a1 l1.length c1) (.slice a4 m2.length c4) (.bool false) (w4.alloc (.cells #[.slice a1 l1.length c1, .slice a4 m2.length c4, .bool false] 58))) := Lib.hid ⟨(hb5.block _ (lt_heap HC0.out)).trans HC0.out, (hb5.block _ (lt_heap HC1.out)).trans HC1.out, (hb5.block _ (lt_heap HC2.out)).trans HC2.out, heap_alloc_new _ _, lt_heap HC2.out, (KT.of HBB.out).trans (HK4.out.trans (KT.of hb5)), HBL4.out.below hb5, Nat.le_refl _⟩
    obtain ⟨w5, hw5⟩ : ∃ x, x = w4.alloc (.cells #[.slice a1 l1.length c1, .slice a4 m2.length c4, .bool false] 58) := ⟨_, rfl⟩
    rw [← hw5] at HJ5 ⊢
    obtain ⟨q, hq⟩ : ∃ q, q = w4.heap.size := ⟨_, rfl⟩
    rw [← hq] at HJ5 ⊢
    clear hb5 hw5 hq x0 x1 x2 y0 y1 y2
    obtain ⟨x0, x1, x2⟩ := cell3 HJ5.out.c0
    obtain ⟨y0, y1, y2⟩ := cell3 HJ5.out.c1
    obtain ⟨z0', z1, z2⟩ := cell3 HJ5.out.c2
    obtain ⟨f0, f1, f2⟩ := frozen3 HJ5.out.c2
    obtain ⟨q0, q1, q2⟩ := cell3 HJ5.out.c7
    obtain ⟨g0, g1, g2⟩ := frozen3 HJ5.out.c7
    go_wp2_with fail
    refine (merged_any l1 m1 _ _ w5 (HI1.out.kt HJ5.out.kt) (HJ1.out.kt HJ5.out.kt) HS.out.1.1 HS.out.2.2.1.1 (by have := HL.out; omega)).mono ?_
    rintro e w6 ⟨v6, rfl, hil, hb⟩
    have Hs := Lib.hid hil
    have HJ6 := Lib.hid (HJ5.out.below hb)
    have HB6 := Lib.hid hb
    obtain ⟨sa, sc, rfl, _⟩ := hil
    clear hb
    clear x0 x1 x2 y0 y1 y2 z0' z1 z2 f0 f1 f2 q0 q1 q2 g0 g1 g2
    obtain ⟨x0, x1, x2⟩ := cell3 HJ6.out.c0
    obtain ⟨y0, y1, y2⟩ := cell3 HJ6.out.c1
    obtain ⟨z0', z1, z2⟩ := cell3 HJ6.out.c2
    obtain ⟨f0, f1, f2⟩ := frozen3 HJ6.out.c2
    obtain ⟨q0, q1, q2⟩ := cell3 HJ6.out.c7
    obtain ⟨g0, g1, g2⟩ := frozen3 HJ6.out.c7
    go_upto_region 5 with fail
    obtain ⟨w7, hw⟩ : ∃ x, x = w6.setCell ⟨q, 0, none⟩ (.slice sa (mrg l1 m1).length sc) := ⟨_, rfl⟩
    have HG7 := Lib.hid (grown_set w6 q 0 (.slice sa (mrg l1 m1).length sc))
    have HT7 := Lib.hid (set_0 (.slice sa (mrg l1 m1).length sc) HJ6.out.c7)
    rw [← hw] at HG7 HT7 ⊢
    have HJ7 := Lib.hid (HJ6.out.set HG7.out HT7.out)
    have Hs' := Lib.hid (il_other Hs.out HG7.out fun k hk => by cases hk; exact ⟨_, _, HJ6.out.c7, by decide⟩)
    clear hw
    clear x0 x1 x2 y0 y1 y2 z0' z1 z2 f0 f1 f2 q0 q1 q2 g0 g1 g2
    obtain ⟨x0, x1, x2⟩ := cell3 HJ7.out.c0
    obtain ⟨y0, y1, y2⟩ := cell3 HJ7.out.c1
    obtain ⟨z0', z1, z2⟩ := cell3 HJ7.out.c2
    obtain ⟨f0, f1, f2⟩ := frozen3 HJ7.out.c2
    obtain ⟨q0, q1, q2⟩ := cell3 HJ7.out.c7
    obtain ⟨g0, g1, g2⟩ := frozen3 HJ7.out.c7
    have HP : Hid (PtV w7 _ (Pa.cat ⟨xf, xl, true⟩ ⟨yf, yl, false⟩)) := Lib.hid ⟨_, _, _, _, rfl, Hs'.out, ((HS.out.1.mrg HS.out.2.2.1).congr fun i => by simp [Pa.cat]), (HJ2.out.kt HJ7.out.kt), (HS.out.2.2.2.congr fun i => by simp [Pa.cat])⟩
    have HFN := Lib.hid (fin3 (w0 := w) HJ7.out.c2 (by omega) HJ7.out.bl HP.out HJ7.out.kt)
    go_wp2
    obtain ⟨vf, vl, he, hbx, hBl, hPt, hKT⟩ := HFN.out
    injection he with he
    simp only [Array.mk.injEq, List.cons.injEq, and_true] at he
    obtain ⟨rfl, rfl, _⟩ := he
    exact bodyPost_ret (ret3c Try.results54 rfl hbx) rfl ⟨_, rfl, hPt, hBl, hKT⟩
  · go_upto_region 3 with fail
    have hb5 := alloc_below w4 (.cells #[.slice a1 l1.length c1, .slice a4 m2.length c4, .bool true] 58)
    have HJ5 : Hid (JS B w p (G.link xl yf) w.heap.size _ _ w4.heap.size (.slice a1 l1.length c1) (.slice a4 m2.length c4) (.bool true) (w4.alloc (.cells #[.slice a1 l1.length c1, .slice a4 m2.length c4, .bool true] 58))) := Lib.hid ⟨(hb5.block _ (lt_heap HC0.out)).trans HC0.out, (hb5.block _ (lt_heap HC1.out)).trans HC1.out, (hb5.block _ (lt_heap HC2.out)).trans HC2.out, heap_alloc_new _ _, lt_heap HC2.out, (KT.of HBB.out).trans (HK4.out.trans (KT.of hb5)), HBL4.out.below hb5, Nat.le_refl _⟩
    obtain ⟨w5, hw5⟩ : ∃ x, x = w4.alloc (.cells #[.slice a1 l1.length c1, .slice a4 m2.length c4, .bool true] 58) := ⟨_, rfl⟩
    rw [← hw5] at HJ5 ⊢
    obtain ⟨q, hq⟩ : ∃ q, q = w4.heap.size := ⟨_, rfl⟩
    rw [← hq] at HJ5 ⊢
    clear hb5 hw5 hq x0 x1 x2 y0 y1 y2
    obtain ⟨x0, x1, x2⟩ := cell3 HJ5.out.c0
    obtain ⟨y0, y1, y2⟩ := cell3 HJ5.out.c1
    obtain ⟨z0', z1, z2⟩ := cell3 HJ5.out.c2
    obtain ⟨f0, f1, f2⟩ := frozen3 HJ5.out.c2
    obtain ⟨q0, q1, q2⟩ := cell3 HJ5.out.c7
    obtain ⟨g0, g1, g2⟩ := frozen3 HJ5.out.c7
    go_wp2_with fail
    refine (merged_any l1 m1 _ _ w5 (HI1.out.kt HJ5.out.kt) (HJ1.out.kt HJ5.out.kt) HS.out.1.1 HS.out.2.2.1.1 (by have := HL.out; omega)).mono ?_
    rintro e w6 ⟨v6, rfl, hil, hb⟩
    have Hs := Lib.hid hil
    have HJ6 := Lib.hid (HJ5.out.below hb)
    have HB6 := Lib.hid hb
    obtain ⟨sa, sc, rfl, _⟩ := hil
    clear hb
    clear x0 x1 x2 y0 y1 y2 z0' z1 z2 f0 f1 f2 q0 q1 q2 g0 g1 g2
    obtain ⟨x0, x1, x2⟩ := cell3 HJ6.out.c0
    obtain ⟨y0, y1, y2⟩ := cell3 HJ6.out.c1
    obtain ⟨z0', z1, z2⟩ := cell3 HJ6.out.c2
    obtain ⟨f0, f1, f2⟩ := frozen3 HJ6.out.c2
    obtain ⟨q0, q1, q2⟩ := cell3 HJ6.out.c7
    obtain ⟨g0, g1, g2⟩ := frozen3 HJ6.out.c7
    go_upto_region 5 with fail
    obtain ⟨w7, hw⟩ : ∃ x, x = w6.setCell ⟨q, 0, none⟩ (.slice sa (mrg l1 m1).length sc) := ⟨_, rfl⟩
    have HG7 := Lib.hid (grown_set w6 q 0 (.slice sa (mrg l1 m1).length sc))
    have HT7 := Lib.hid (set_0 (.slice sa (mrg l1 m1).length sc) HJ6.out.c7)
    rw [← hw] at HG7 HT7 ⊢
    have HJ7 := Lib.hid (HJ6.out.set HG7.out HT7.out)
    have Hs' := Lib.hid (il_other Hs.out HG7.out fun k hk => by cases hk; exact ⟨_, _, HJ6.out.c7, by decide⟩)
    clear hw
    clear x0 x1 x2 y0 y1 y2 z0' z1 z2 f0 f1 f2 q0 q1 q2 g0 g1 g2
    obtain ⟨x0, x1, x2⟩ := cell3 HJ7.out.c0
    obtain ⟨y0, y1, y2⟩ := cell3 HJ7.out.c1
    obtain ⟨z0', z1, z2⟩ := cell3 HJ7.out.c2
    obtain ⟨f0, f1, f2⟩ := frozen3 HJ7.out.c2
    obtain ⟨q0, q1, q2⟩ := cell3 HJ7.out.c7
    obtain ⟨g0, g1, g2⟩ := frozen3 HJ7.out.c7
    go_wp2_with fail
    refine (merged_any l2 m2 _ _ w7 (HI2.out.kt HJ7.out.kt) (HJ2.out.kt HJ7.out.kt) HS.out.2.1.1 HS.out.2.2.2.1 (by have := HL.out; omega)).mono ?_
    rintro e w8 ⟨v8, rfl, hil, hb⟩
    have Ht := Lib.hid hil
    have HJ8 := Lib.hid (HJ7.out.below hb)
    have HB8 := Lib.hid hb
    obtain ⟨ta, tc, rfl, _⟩ := hil
    clear hb
    clear x0 x1 x2 y0 y1 y2 z0' z1 z2 f0 f1 f2 q0 q1 q2 g0 g1 g2
    obtain ⟨x0, x1, x2⟩ := cell3 HJ8.out.c0
    obtain ⟨y0, y1, y2⟩ := cell3 HJ8.out.c1
    obtain ⟨z0', z1, z2⟩ := cell3 HJ8.out.c2
    obtain ⟨f0, f1, f2⟩ := frozen3 HJ8.out.c2
    obtain ⟨q0, q1, q2⟩ := cell3 HJ8.out.c7
    obtain ⟨g0, g1, g2⟩ := frozen3 HJ8.out.c7
    go_upto_region 7 with fail
    obtain ⟨w9, hw⟩ : ∃ x, x = w8.setCell ⟨q, 1, none⟩ (.slice ta (mrg l2 m2).length tc) := ⟨_, rfl⟩
    have HG9 := Lib.hid (grown_set w8 q 1 (.slice ta (mrg l2 m2).length tc))
    have HT9 := Lib.hid (set_1 (.slice ta (mrg l2 m2).length tc) HJ8.out.c7)
    rw [← hw] at HG9 HT9 ⊢
    have HJ9 := Lib.hid (HJ8.out.set HG9.out HT9.out)
    have Ht' := Lib.hid (il_other Ht.out HG9.out fun k hk => by cases hk; exact ⟨_, _, HJ8.out.c7, by decide⟩)
    clear hw
    clear x0 x1 x2 y0 y1 y2 z0' z1 z2 f0 f1 f2 q0 q1 q2 g0 g1 g2
    obtain ⟨x0, x1, x2⟩ := cell3 HJ9.out.c0
    obtain ⟨y0, y1, y2⟩ := cell3 HJ9.out.c1
    obtain ⟨z0', z1, z2⟩ := cell3 HJ9.out.c2
    obtain ⟨f0, f1, f2⟩ := frozen3 HJ9.out.c2
    obtain ⟨q0, q1, q2⟩ := cell3 HJ9.out.c7
    obtain ⟨g0, g1, g2⟩ := frozen3 HJ9.out.c7
    have HP : Hid (PtV w9 _ (Pa.cat ⟨xf, xl, true⟩ ⟨yf, yl, true⟩)) := Lib.hid ⟨_, _, _, _, rfl, (il_other (Hs'.out.below HB8.out) HG9.out fun k hk => by cases hk; exact ⟨_, _, HJ8.out.c7, by decide⟩), ((HS.out.1.mrg HS.out.2.2.1).congr fun i => by simp [Pa.cat]), Ht'.out, ((HS.out.2.1.mrg HS.out.2.2.2).congr fun i => by simp [Pa.cat])⟩
    have HFN := Lib.hid (fin3 (w0 := w) HJ9.out.c2 (by omega) HJ9.out.bl HP.out HJ9.out.kt)
    go_wp2
    obtain ⟨vf, vl, he, hbx, hBl, hPt, hKT⟩ := HFN.out
    injection he with he
    simp only [Array.mk.injEq, List.cons.injEq, and_true] at he
    obtain ⟨rfl, rfl, _⟩ := he
    exact bodyPost_ret (ret3c Try.results54 rfl hbx) rfl ⟨_, rfl, hPt, hBl, hKT⟩
end Go.Proofs.Ytbahadgcmaabcaa
