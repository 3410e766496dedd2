/- The landed code's copied and use, of definitions that are patterns without parts, or of two such parts. -/
import Derived.Test.YtnloepanbjgbaaaGreatDoorQe
import Derived.Test.YtnloepanbjgbaaaGreatDoorMf
import Derived.Lib.IndexBytes
namespace Go.Proofs.YtnloepanbjgbaaaGreatDoor
open Go.RowKit
theorem two_old (w : World) (A B : Obj) : ((w.alloc A).alloc B).heap[w.heap.size]? = some A := (Below.heap_alloc _ _ _ (by simp)).trans (heap_alloc_new _ _)
theorem two_new (w : World) (A B : Obj) : ((w.alloc A).alloc B).heap[w.heap.size + 1]? = some B := by
  have := heap_alloc_new (w.alloc A) B; simpa using this
theorem rd_boxes {w : World} {p : Nat} {C : Cx} {i deep cop : Nat} (h : Rd w p C i deep cop) (A B : Obj) : Rd ((w.alloc A).alloc B) p C i deep cop ∧ w.grownBy ((w.alloc A).alloc B) (some p) :=
  have hb : Below w.heap.size w ((w.alloc A).alloc B) := (alloc_below _ _).alloc (by simp) _
  ⟨h.below hb, grown_of_below hb _⟩
set_option maxRecDepth 100000 in
set_option maxHeartbeats 2000000 in
theorem copied_leaf (k : Int) (s : Nat → Int) (lo hi : Int) (a : Option Addr) (cap : Nat) (w : World) (p : Nat) (C : Cx) (i deep cop : Nat) (h : Rd w p C i deep cop) (hc : cop + 1 ≤ 2000) :
    Calls Tryz.prog 137 #[rp p, nodeV k s lo hi (.slice a 0 cap)] w fun e w' => e = .returned (nodeV k s lo hi (.slice none 0 0)) ∧ Rd w' p C i deep (cop + 1) ∧ w.grownBy w' (some p) := by
  have hp := h.lt
  have hcp := h.cp
  obtain ⟨c0, c1, c2, c3, c4, c5⟩ := h.cells
  have hf := h.free 5
  obtain ⟨h1, hg1⟩ := h.more (j := cop + 1) hc (v := (cop : Int) + 1) (by omega)
  have H1 := Lib.hid h1
  have HG1 := Lib.hid hg1
  clear h h1 hg1
  go_enter Tryz.func137, Tryz.ntmps137
  go_wp2
  exact bodyPost_ret (v := nodeV k s lo hi (.slice none 0 0)) (ret8 Tryz.results137 rfl (by have := two_new (w.setCell ⟨p, 5, none⟩ (.int .i64 ((cop : Int) + 1))) (.cells (row8 k s lo hi (.slice none 0 0)) 31) (.cells (row8 k s lo hi (.slice none 0 0)) 31); rw [show (w.setCell ⟨p, 5, none⟩ (.int .i64 ((cop : Int) + 1))).heap.size = w.heap.size by simp] at this; exact this)) rfl ⟨rfl, (rd_boxes H1.out _ _).1, gtrans HG1.out (rd_boxes H1.out _ _).2⟩
/-- A copy of a pattern without parts. -/
def cpL (t : Tr) : Tr := .node t.k t.s t.lo t.hi none 0 0 fun _ => .nul
theorem make2 (w : World) : (Instr.makeSlice 29 (.int .i64 2) (.int .i64 2)).run Tryz.prog w = .ok (.slice (some ⟨w.heap.size, 0, none⟩) 2 2) (w.alloc (.cells (rowTwo zeroT zeroT) 31)) := by kernel_rfl
/-- Eight stores into a row of two. -/
abbrev put8o (w : World) (g o : Nat) (t : Tr) : World :=
  (((((((w.setCell ⟨g, o, none⟩ (.int .i64 t.k)).setCell ⟨g, o + 1, none⟩ (.int .u64 (t.s 0))).setCell ⟨g, o + 2, none⟩ (.int .u64 (t.s 1))).setCell ⟨g, o + 3, none⟩ (.int .u64 (t.s 2))).setCell ⟨g, o + 4, none⟩ (.int .u64 (t.s 3))).setCell ⟨g, o + 5, none⟩ (.int .i64 t.lo)).setCell ⟨g, o + 6, none⟩ (.int .i64 t.hi)).setCell ⟨g, o + 7, none⟩ (.slice t.a t.n t.cap)
theorem put8o_other (w : World) (q o k : Nat) (t : Tr) (h : k ≠ q) : (put8o w q o t).heap[k]? = w.heap[k]? := by
  have key : ∀ (w : World) (c : Nat) (u : Value), (w.setCell ⟨q, c, none⟩ u).heap[k]? = w.heap[k]? := fun w c u => Below.heap_setCell _ _ _ _ h
  unfold put8o
  rw [key, key, key, key, key, key, key, key]
set_option maxRecDepth 100000 in
theorem put_first {w : World} {g : Nat} {t u : Tr} (x : Tr) (h : w.heap[g]? = some (.cells (rowTwo t u) 31 (0, 0))) : (put8o w g 0 x).heap[g]? = some (.cells (rowTwo x u) 31 (0, 0)) := by
  have h1 := heap_setCell_same w g 0 _ _ (.int .i64 x.k) h
  have h2 := heap_setCell_same _ g 1 _ _ (.int .u64 (x.s 0)) h1
  have h3 := heap_setCell_same _ g 2 _ _ (.int .u64 (x.s 1)) h2
  have h4 := heap_setCell_same _ g 3 _ _ (.int .u64 (x.s 2)) h3
  have h5 := heap_setCell_same _ g 4 _ _ (.int .u64 (x.s 3)) h4
  have h6 := heap_setCell_same _ g 5 _ _ (.int .i64 x.lo) h5
  have h7 := heap_setCell_same _ g 6 _ _ (.int .i64 x.hi) h6
  have h8 := heap_setCell_same _ g 7 _ _ (.slice x.a x.n x.cap) h7
  unfold put8o
  simp only [Nat.zero_add]
  rw [h8]; simp
set_option maxRecDepth 100000 in
theorem put_second {w : World} {g : Nat} {t u : Tr} (x : Tr) (h : w.heap[g]? = some (.cells (rowTwo t u) 31 (0, 0))) : (put8o w g 8 x).heap[g]? = some (.cells (rowTwo t x) 31 (0, 0)) := by
  have h1 := heap_setCell_same w g 8 _ _ (.int .i64 x.k) h
  have h2 := heap_setCell_same _ g 9 _ _ (.int .u64 (x.s 0)) h1
  have h3 := heap_setCell_same _ g 10 _ _ (.int .u64 (x.s 1)) h2
  have h4 := heap_setCell_same _ g 11 _ _ (.int .u64 (x.s 2)) h3
  have h5 := heap_setCell_same _ g 12 _ _ (.int .u64 (x.s 3)) h4
  have h6 := heap_setCell_same _ g 13 _ _ (.int .i64 x.lo) h5
  have h7 := heap_setCell_same _ g 14 _ _ (.int .i64 x.hi) h6
  have h8 := heap_setCell_same _ g 15 _ _ (.slice x.a x.n x.cap) h7
  unfold put8o
  rw [h8]; simp
/-- In the midst of copying. -/
structure CpR (w : World) (p q : Nat) (C : Cx) (i deep cop : Nat) (k : Int) (s : Nat → Int) (lo hi : Int) (a : Option Addr) (cap : Nat) (t u : Tr) (j : Nat) (wr : World) : Prop where
  rd : Rd wr p C i deep (cop + j)
  grown : w.grownBy wr (some p)
  bx : wr.heap[q]? = some (.cells (row8 k s lo hi (.slice a 2 cap)) 31 (0, 0))
  br : wr.heap[q + 1]? = some (.cells (row8 0 z0 0 0 (.slice none 0 0)) 31 (0, 0))
  row : wr.heap[q + 2]? = some (.cells (rowTwo (if 1 ≤ j then cpL t else zeroT) (if 2 ≤ j then cpL u else zeroT)) 31 (0, 0))
theorem put8o_rd {w : World} {p g o : Nat} {C : Cx} {i deep cop : Nat} (x : Tr) (h : Rd w p C i deep cop) (hp : p ≠ g) : Rd (put8o w g o x) p C i deep cop := ⟨(put8o_other w g o p x hp).trans h.box, h.sz, h.le, h.dp, h.cp⟩
theorem put8o_below (w : World) {B g : Nat} (o : Nat) (x : Tr) (hg : B ≤ g) : Below B w (put8o w g o x) :=
  (((((((((Below.refl _ w).setCell (show B ≤ (⟨g, o + 0, none⟩ : Addr).block from hg) _).setCell (show B ≤ (⟨g, o + 1, none⟩ : Addr).block from hg) _).setCell (show B ≤ (⟨g, o + 2, none⟩ : Addr).block from hg) _).setCell (show B ≤ (⟨g, o + 3, none⟩ : Addr).block from hg) _).setCell (show B ≤ (⟨g, o + 4, none⟩ : Addr).block from hg) _).setCell (show B ≤ (⟨g, o + 5, none⟩ : Addr).block from hg) _).setCell (show B ≤ (⟨g, o + 6, none⟩ : Addr).block from hg) _).setCell (show B ≤ (⟨g, o + 7, none⟩ : Addr).block from hg) _)
theorem put8o_grown {w w1 : World} {g o : Nat} (x : Tr) {r : Option Nat} (h : w.grownBy w1 r) (hg : w.heap.size ≤ g) : w.grownBy (put8o w1 g o x) r := grown_then h (put8o_below w1 o x hg)
theorem open16 {w : World} {g : Nat} {t u : Tr} (h : w.heap[g]? = some (.cells (rowTwo t u) 31 (0, 0))) :
    (w.cell? ⟨g, 0, none⟩ = some (.int .i64 t.k) ∧ w.cell? ⟨g, 1, none⟩ = some (.int .u64 (t.s 0)) ∧ w.cell? ⟨g, 2, none⟩ = some (.int .u64 (t.s 1)) ∧ w.cell? ⟨g, 3, none⟩ = some (.int .u64 (t.s 2)) ∧ w.cell? ⟨g, 4, none⟩ = some (.int .u64 (t.s 3)) ∧ w.cell? ⟨g, 5, none⟩ = some (.int .i64 t.lo) ∧ w.cell? ⟨g, 6, none⟩ = some (.int .i64 t.hi) ∧ w.cell? ⟨g, 7, none⟩ = some (.slice t.a t.n t.cap)) ∧
    (w.cell? ⟨g, 8, none⟩ = some (.int .i64 u.k) ∧ w.cell? ⟨g, 9, none⟩ = some (.int .u64 (u.s 0)) ∧ w.cell? ⟨g, 10, none⟩ = some (.int .u64 (u.s 1)) ∧ w.cell? ⟨g, 11, none⟩ = some (.int .u64 (u.s 2)) ∧ w.cell? ⟨g, 12, none⟩ = some (.int .u64 (u.s 3)) ∧ w.cell? ⟨g, 13, none⟩ = some (.int .i64 u.lo) ∧ w.cell? ⟨g, 14, none⟩ = some (.int .i64 u.hi) ∧ w.cell? ⟨g, 15, none⟩ = some (.slice u.a u.n u.cap)) :=
  have e0 : At8 w g 0 t := by simpa [pair] using two_at h 0 (by omega)
  have e1 : At8 w g 8 u := by simpa [pair] using two_at h 1 (by omega)
  And.intro e0 (And.intro e1.1 (And.intro e1.2.1 (And.intro e1.2.2.1 (And.intro e1.2.2.2.1 (And.intro e1.2.2.2.2.1 (And.intro e1.2.2.2.2.2.1 (And.intro e1.2.2.2.2.2.2.1 e1.2.2.2.2.2.2.2)))))))
/-- A kid's box, laid in a round. -/
theorem kid_box {w1 w2 : World} {p q : Nat} {C : Cx} {i deep cop i2 d2 c2 : Nat} {o o' : Obj} (hq : w1.heap[q]? = some o) (hR : Rd w1 p C i deep cop) (hne : p ≠ q) (hG : (w1.alloc o').grownBy w2 (some p)) (_ : Rd w2 p C i2 d2 c2) : w2.heap[q]? = some o :=
  box_on ((Below.heap_alloc w1 o' q (Array.getElem?_eq_some_iff.1 hq).1).trans hq) hne hG
set_option maxRecDepth 100000 in
set_option maxHeartbeats 4000000 in
theorem copied_two (k : Int) (s : Nat → Int) (lo hi : Int) (g off cap : Nat) (t u : Tr) (w : World) (p : Nat) (C : Cx) (i deep cop : Nat) (h : Rd w p C i deep cop) (hc : cop + 2 ≤ 2000) (hg : g < w.heap.size) (h0 : At8 w g off t) (h1 : At8 w g (off + 8) u) (ht : t.n = 0) (hu : u.n = 0) :
    Calls Tryz.prog 137 #[rp p, nodeV k s lo hi (.slice (some ⟨g, off, none⟩) 2 cap)] w fun e w' => ∃ r : Nat, w.heap.size ≤ r ∧ w'.heap[r]? = some (.cells (rowTwo (cpL t) (cpL u)) 31 (0, 0)) ∧ e = .returned (nodeV k s lo hi (.slice (some ⟨r, 0, none⟩) 2 2)) ∧ Rd w' p C i deep (cop + 2) ∧ w.grownBy w' (some p) := by
  have hp := h.lt
  have hgp := at8_rd h h0
  have hmk := make2
  have HR0 := Lib.hid h
  obtain ⟨q, hqq⟩ : ∃ q, q = w.heap.size := ⟨_, rfl⟩
  have H0 := Lib.hid h0
  have H1 := Lib.hid h1
  have HT := Lib.hid ht
  have HU := Lib.hid hu
  clear h h0 h1 ht hu
  go_enter Tryz.func137, Tryz.ntmps137
  go_wp2
  rw [← hqq]
  have HQQ := Lib.hid hqq
  have hqw : w.heap.size ≤ q := by omega
  have hpq : p < q := by omega
  have hgq : g < q := by omega
  clear hqq
  go_loopg [28] 2 (fun gk v wr => gk ≤ 2 ∧ v = .int .i64 ((2 - gk : Nat) : Int) ∧ CpR w p q C i deep cop k s lo hi (some ⟨g, off, none⟩) cap t u (2 - gk) wr)
  case atStart =>
    have hq0 := HQQ.out
    have hb : Below w.heap.size w (((w.alloc (.cells (row8 k s lo hi (.slice (some ⟨g, off, none⟩) 2 cap)) 31)).alloc (.cells (row8 0 z0 0 0 (.slice none 0 0)) 31)).alloc (.cells (rowTwo zeroT zeroT) 31)) := below_alloc3 _ _ _ _
    exact ⟨by omega, rfl, ⟨HR0.out.below hb, grown_of_below hb _, by rw [hq0]; exact heap_alloc3_a _ _ _ _, by rw [hq0]; exact heap_alloc3_b _ _ _ _, by rw [hq0]; exact heap_alloc3_c _ _ _ _⟩⟩
  case round =>
    obtain ⟨hgk, rfl, hC⟩ := hrel
    have hsz := hC.grown.size
    have hblk : wr.heap[g]? = w.heap[g]? := hC.grown.block g (by omega) (fun e => hgp (by injection e))
    have key : ∀ o : Nat, wr.cell? ⟨g, o, none⟩ = w.cell? ⟨g, o, none⟩ := fun o => World.cell?_of_block hblk
    obtain ⟨x0, x1, x2, x3, x4, x5, x6, x7⟩ := H0.out
    obtain ⟨y0, y1, y2, y3, y4, y5, y6, y7⟩ := H1.out
    rw [← key] at x0 x1 x2 x3 x4 x5 x6 x7 y0 y1 y2 y3 y4 y5 y6 y7
    have hgs : g < wr.heap.size := by omega
    have HC := Lib.hid hC
    clear hblk key hC HR0
    rcases (show gk = 2 ∨ gk = 1 ∨ gk = 0 by omega) with rfl | rfl | rfl
    · clear y0 y1 y2 y3 y4 y5 y6 y7
      rw [HT.out] at x7
      have hR1 := HC.out.rd.below (alloc_below wr (.cells (row8 t.k t.s t.lo t.hi (.slice t.a 0 t.cap)) 31))
      have HL := Lib.hid (copied_leaf t.k t.s t.lo t.hi t.a t.cap _ p C i deep cop hR1 (by omega))
      clear hR1
      go_wp2_with fail
      refine HL.out.mono ?_
      rintro e w1 ⟨rfl, hR1, hG1⟩
      have hX1 := kid_box HC.out.bx HC.out.rd (by omega) hG1 hR1
      have hB1 := kid_box HC.out.br HC.out.rd (by omega) hG1 hR1
      have hW1 := kid_box HC.out.row HC.out.rd (by omega) hG1 hR1
      have hG2 := gtrans (grown_alloc_box HC.out.grown) hG1
      simp only [Nat.sub_self, if_neg (show ¬ 1 ≤ 0 by omega), if_neg (show ¬ 2 ≤ 0 by omega)] at hW1
      have HN := Lib.hid (show CpR w p q C i deep cop k s lo hi (some ⟨g, off, none⟩) cap t u (2 - 1) (put8o w1 (q + 2) 0 (cpL t)) from
        ⟨put8o_rd _ hR1 (by omega), put8o_grown _ hG2 (by omega), (put8o_other _ _ _ _ _ (by omega)).trans hX1, (put8o_other _ _ _ _ _ (by omega)).trans hB1, put_first (cpL t) hW1⟩)
      obtain ⟨⟨d0, d1, d2, d3, d4, d5, d6, d7⟩, _⟩ := open16 hW1
      have fz : ∀ c, w1.frozen? ⟨q + 2, c, none⟩ = false := fun c => frozen_of_row _ _ c _ _ hW1
      have f0 := fz 0
      have f1 := fz 1
      have f2 := fz 2
      have f3 := fz 3
      have f4 := fz 4
      have f5 := fz 5
      have f6 := fz 6
      have f7 := fz 7
      clear hX1 hB1 hW1 hG2 hR1 hG1 fz x0 x1 x2 x3 x4 x5 x6 x7 HL HC
      go_wp2
      go_roundg 1
      case rel => exact ⟨by omega, rfl, HN.out⟩
      case measure => omega
    · clear x0 x1 x2 x3 x4 x5 x6 x7
      rw [HU.out] at y7
      have hR1 := HC.out.rd.below (alloc_below wr (.cells (row8 u.k u.s u.lo u.hi (.slice u.a 0 u.cap)) 31))
      have HL := Lib.hid (copied_leaf u.k u.s u.lo u.hi u.a u.cap _ p C i deep (cop + 1) hR1 (by omega))
      clear hR1
      go_wp2_with fail
      refine HL.out.mono ?_
      rintro e w1 ⟨rfl, hR1, hG1⟩
      have hX1 := kid_box HC.out.bx HC.out.rd (by omega) hG1 hR1
      have hB1 := kid_box HC.out.br HC.out.rd (by omega) hG1 hR1
      have hW1 := kid_box HC.out.row HC.out.rd (by omega) hG1 hR1
      have hG2 := gtrans (grown_alloc_box HC.out.grown) hG1
      simp only [if_pos (show 1 ≤ 2 - 1 by omega), if_neg (show ¬ 2 ≤ 2 - 1 by omega)] at hW1
      have HN := Lib.hid (show CpR w p q C i deep cop k s lo hi (some ⟨g, off, none⟩) cap t u (2 - 0) (put8o w1 (q + 2) 8 (cpL u)) from
        ⟨put8o_rd _ hR1 (by omega), put8o_grown _ hG2 (by omega), (put8o_other _ _ _ _ _ (by omega)).trans hX1, (put8o_other _ _ _ _ _ (by omega)).trans hB1, put_second (cpL u) hW1⟩)
      obtain ⟨_, d0, d1, d2, d3, d4, d5, d6, d7⟩ := open16 hW1
      have fz : ∀ c, w1.frozen? ⟨q + 2, c, none⟩ = false := fun c => frozen_of_row _ _ c _ _ hW1
      have f0 := fz 8
      have f1 := fz 9
      have f2 := fz 10
      have f3 := fz 11
      have f4 := fz 12
      have f5 := fz 13
      have f6 := fz 14
      have f7 := fz 15
      clear hX1 hB1 hW1 hG2 hR1 hG1 fz y0 y1 y2 y3 y4 y5 y6 y7 HL HC
      go_wp2
      go_roundg 0
      case rel => exact ⟨by omega, rfl, HN.out⟩
      case measure => omega
    · obtain ⟨hR1, hG1, hX1, hB1, hW1⟩ := HC.out
      simp only [if_pos (show 1 ≤ 2 - 0 by omega), if_pos (show 2 ≤ 2 - 0 by omega)] at hW1
      obtain ⟨d0, d1, d2, d3, d4, d5, d6, d7⟩ := cell8 hX1
      have fx := frozen_of_row _ _ 7 _ _ hX1
      obtain ⟨b0, b1, b2, b3, b4, b5, b6, b7⟩ := cell8 (s := z0) hB1
      obtain ⟨f0, f1, f2, f3, f4, f5, f6, f7⟩ := frozen8 (s := z0) hB1
      have hg2 := setCell_grown wr q 7 (.slice (some ⟨q + 2, 0, none⟩) 2 2)
      have hR2 : Rd (wr.setCell ⟨q, 7, none⟩ (.slice (some ⟨q + 2, 0, none⟩) 2 2)) p C i deep (cop + 2) := ⟨(Below.heap_setCell _ _ _ _ (by show p ≠ q; omega)).trans hR1.box, hR1.sz, hR1.le, hR1.dp, hR1.cp⟩
      have hG3 : w.grownBy (wr.setCell ⟨q, 7, none⟩ (.slice (some ⟨q + 2, 0, none⟩) 2 2)) (some p) := grown_then hG1 ((Below.refl _ _).setCell (by show w.heap.size ≤ q; omega) _)
      have hB2 := (Below.heap_setCell wr ⟨q, 7, none⟩ (.slice (some ⟨q + 2, 0, none⟩) 2 2) (q + 1) (by show q + 1 ≠ q; omega)).trans hB1
      have hW2 := (Below.heap_setCell wr ⟨q, 7, none⟩ (.slice (some ⟨q + 2, 0, none⟩) 2 2) (q + 2) (by show q + 2 ≠ q; omega)).trans hW1
      have HX := Lib.hid (fin8r hR2 hG3 hp (show w.heap.size ≤ q + 1 by omega) hB2 k s lo hi (.slice (some ⟨q + 2, 0, none⟩) 2 2))
      have HW := Lib.hid ((put8_other (wr.setCell ⟨q, 7, none⟩ (.slice (some ⟨q + 2, 0, none⟩) 2 2)) (q + 1) (q + 2) k s lo hi (.slice (some ⟨q + 2, 0, none⟩) 2 2) (by omega)).trans hW2)
      clear hR1 hG1 hX1 hB1 hW1 hg2 hR2 hG3 hB2 hW2 x0 x1 x2 x3 x4 x5 x6 x7 y0 y1 y2 y3 y4 y5 y6 y7 HC
      go_wp2
      exact bodyPost_ret (v := nodeV k s lo hi (.slice (some ⟨q + 2, 0, none⟩) 2 2)) (ret8 Tryz.results137 rfl HX.out.1) rfl ⟨q + 2, by omega, HW.out, rfl, HX.out.2.1, HX.out.2.2⟩
end Go.Proofs.YtnloepanbjgbaaaGreatDoor
/- The landed code's use, Name; strings.Cut at a brace. -/
namespace Go.Proofs.YtnloepanbjgbaaaGreatDoor
open Go.RowKit
/-- A definition's value. -/
abbrev defV (nm : ByteArray) (t : Tr) : Value := .agg #[.string nm, .int .i64 t.k, .int .u64 (t.s 0), .int .u64 (t.s 1), .int .u64 (t.s 2), .int .u64 (t.s 3), .int .i64 t.lo, .int .i64 t.hi, .slice t.a t.n t.cap]
/-- A definition's pattern has no parts, or two that have none. -/
def Flat (t : Tr) : Prop := t.n = 0 ∨ (t.n = 2 ∧ (t.kid 0).n = 0 ∧ (t.kid 1).n = 0)
def leavesT (t : Tr) : Nat := if t.n = 0 then 1 else 2
/-- What a definition stands for, after so many copies. -/
def useT (c : Nat) (t : Tr) : Tr × Nat := if 1000 < c then (lfT 1 z0, c) else (t, c + leavesT t)
theorem eqS_refl (s : Nat → Int) : eqS s s = true := by simp [eqS]
theorem same_mk {t u : Tr} (h1 : t.k = u.k) (h2 : eqS t.s u.s = true) (h3 : t.lo = u.lo) (h4 : t.hi = u.hi) (h5 : t.n = u.n) (hk : ∀ i, i < t.n → sameT (t.kid i) (u.kid i) = true) : sameT t u = true := by
  rw [sameT_eq, Bool.and_eq_true]
  refine ⟨?_, allTo_iff.2 hk⟩
  simp [likeB, h1, h2, h3, h4, h5]
theorem same_cpL {t : Tr} (h : t.n = 0) : sameT (cpL t) t = true := same_mk rfl (eqS_refl _) rfl rfl h.symm fun i hi => absurd hi (by show ¬ i < 0; omega)
def cp2 (r : Nat) (t : Tr) : Tr := .node t.k t.s t.lo t.hi (some ⟨r, 0, none⟩) 2 2 (pair (cpL (t.kid 0)) (cpL (t.kid 1)))
theorem same_cp2 {t : Tr} {r : Nat} (h : t.n = 2) (h0 : (t.kid 0).n = 0) (h1 : (t.kid 1).n = 0) : sameT (cp2 r t) t = true := by
  refine same_mk rfl (eqS_refl _) rfl rfl h.symm fun i hi => ?_
  have hi2 : i < 2 := hi
  rcases (show i = 0 ∨ i = 1 by omega) with rfl | rfl
  · exact same_cpL h0
  · exact same_cpL h1
theorem up_cp2 {A r : Nat} (h : A ≤ r) (t : Tr) : Up A (cp2 r t) := ⟨fun _ b hb => by cases hb; exact h, fun i _ => by unfold pair; split <;> exact ⟨fun h => absurd h (by omega), fun i h => absurd h (by omega)⟩⟩
theorem lives_cpL {t : Tr} {w : World} {B : Nat} (h : Wf t.s) : Lives w B (cpL t) := ⟨h, Nat.le_refl _, by unfold maxLen; omega, fun h => by omega, fun i h => by omega⟩
theorem lives_cp2 {t : Tr} {w : World} {r : Nat} (h : Wf t.s) (h0 : Wf (t.kid 0).s) (h1 : Wf (t.kid 1).s) (hr : w.heap[r]? = some (.cells (rowTwo (cpL (t.kid 0)) (cpL (t.kid 1))) 31 (0, 0))) : Lives w w.heap.size (cp2 r t) := by
  refine ⟨h, Nat.le_refl _, by unfold maxLen; omega, fun _ => ⟨r, 0, rfl, (Array.getElem?_eq_some_iff.1 hr).1, two_at hr⟩, fun i hi => ?_⟩
  unfold pair; split
  · exact lives_cpL h0
  · exact lives_cpL h1
theorem Lives.wf {w : World} {B : Nat} {t : Tr} (h : Lives w B t) : Wf t.s := by
  cases t with
  | nul => exact False.elim h
  | node => exact h.1
/-- What use, and copied, are to do. -/
def PU (w : World) (p : Nat) (C : Cx) (i deep : Nat) (T : Tr × Nat) (e : Ending) (w' : World) : Prop :=
  ∃ x : Tr, e = .returned x.val ∧ sameT x T.1 = true ∧ Lives w' w'.heap.size x ∧ Up w.heap.size x ∧ Rd w' p C i deep T.2 ∧ w.grownBy w' (some p)
theorem copied_flat (t : Tr) (w : World) (p : Nat) (C : Cx) (i deep cop : Nat) (h : Rd w p C i deep cop) (hc : cop ≤ 1000) (hf : Flat t) (hL : Lives w w.heap.size t) :
    Calls Tryz.prog 137 #[rp p, t.val] w (PU w p C i deep (t, cop + leavesT t)) := by
  rcases hf with h0 | ⟨h2, k0, k1⟩
  · have := copied_leaf t.k t.s t.lo t.hi t.a t.cap w p C i deep cop h (by omega)
    have e : t.val = nodeV t.k t.s t.lo t.hi (.slice t.a 0 t.cap) := by unfold Tr.val; rw [h0]
    rw [e]
    refine this.mono fun e w' ⟨he, hR, hG⟩ => ⟨cpL t, he, same_cpL h0, lives_cpL hL.wf, ⟨fun h => absurd h (by omega), fun i h => absurd h (by omega)⟩, ?_, hG⟩
    show Rd w' p C i deep (cop + leavesT t)
    unfold leavesT; rw [if_pos h0]; exact hR
  · obtain ⟨_, hat, hk⟩ := lives_at hL
    obtain ⟨g, off, ha, hg, h8⟩ := hat (by omega)
    have a0 : At8 w g off (t.kid 0) := by simpa using h8 0 (by omega)
    have a1 : At8 w g (off + 8) (t.kid 1) := by simpa using h8 1 (by omega)
    have := copied_two t.k t.s t.lo t.hi g off t.cap (t.kid 0) (t.kid 1) w p C i deep cop h (by omega) hg a0 a1 k0 k1
    have e : t.val = nodeV t.k t.s t.lo t.hi (.slice (some ⟨g, off, none⟩) 2 t.cap) := by unfold Tr.val; rw [h2, ha]
    rw [e]
    refine this.mono fun e w' ⟨r, hrs, hr, he, hR, hG⟩ => ⟨cp2 r t, he, same_cp2 h2 k0 k1, lives_cp2 hL.wf (hk 0 (by omega)).wf (hk 1 (by omega)).wf hr, up_cp2 hrs t, ?_, hG⟩
    show Rd w' p C i deep (cop + leavesT t)
    unfold leavesT; rw [if_neg (by omega)]; exact hR
set_option maxRecDepth 100000 in
set_option maxHeartbeats 2000000 in
theorem use_any (nm : ByteArray) (t : Tr) (w : World) (p : Nat) (C : Cx) (i deep cop : Nat) (h : Rd w p C i deep cop) (hf : Flat t) (hL : Lives w w.heap.size t) :
    Calls Tryz.prog 124 #[rp p, defV nm t] w (PU w p C i deep (useT cop t)) := by
  have hp := h.lt
  obtain ⟨c0, c1, c2, c3, c4, c5⟩ := h.cells
  have hb : Below w.heap.size w ((w.alloc (.cells #[.string nm, .int .i64 t.k, .int .u64 (t.s 0), .int .u64 (t.s 1), .int .u64 (t.s 2), .int .u64 (t.s 3), .int .i64 t.lo, .int .i64 t.hi, .slice t.a t.n t.cap] 66)).alloc (.cells (row8 0 z0 0 0 (.slice none 0 0)) 31)) := (alloc_below _ _).alloc (by simp) _
  have HB := Lib.hid hb
  have HR := Lib.hid (h.below hb)
  have HQ := Lib.hid (two_new w (.cells #[.string nm, .int .i64 t.k, .int .u64 (t.s 0), .int .u64 (t.s 1), .int .u64 (t.s 2), .int .u64 (t.s 3), .int .i64 t.lo, .int .i64 t.hi, .slice t.a t.n t.cap] 66) (.cells (row8 0 z0 0 0 (.slice none 0 0)) 31))
  have HL := Lib.hid (hL.now hb)
  have HF := Lib.hid hf
  clear h hb hL hf
  by_cases hc : 1000 < cop
  · have HT := Lib.hid (show useT cop t = (lfT 1 z0, cop) by unfold useT; rw [if_pos hc])
    have hc' : (1000 : Int) < (cop : Int) := by omega
    have HX := Lib.hid (show PU w p C i deep (lfT 1 z0, cop) (.returned (nodeV 1 z0 0 0 (.slice none 0 0))) ((w.alloc (.cells #[.string nm, .int .i64 t.k, .int .u64 (t.s 0), .int .u64 (t.s 1), .int .u64 (t.s 2), .int .u64 (t.s 3), .int .i64 t.lo, .int .i64 t.hi, .slice t.a t.n t.cap] 66)).alloc (.cells (row8 1 z0 0 0 (.slice none 0 0)) 31)) from
      ⟨lfT 1 z0, rfl, same_self _, (lf_ok (Or.inl ⟨rfl, rfl⟩)).2.2 _ _, up_lf _ _ _, (by
        have hb2 : Below w.heap.size w ((w.alloc (.cells #[.string nm, .int .i64 t.k, .int .u64 (t.s 0), .int .u64 (t.s 1), .int .u64 (t.s 2), .int .u64 (t.s 3), .int .i64 t.lo, .int .i64 t.hi, .slice t.a t.n t.cap] 66)).alloc (.cells (row8 1 z0 0 0 (.slice none 0 0)) 31)) := (alloc_below _ _).alloc (by simp) _
        exact ⟨(hb2.block p hp).trans ((HB.out.block p hp).symm.trans HR.out.box), HR.out.sz, HR.out.le, HR.out.dp, HR.out.cp⟩),
        grown_of_below ((alloc_below _ _).alloc (by simp) _) _⟩)
    go_enter Tryz.func124, Tryz.ntmps124
    go_wp2
    refine bodyPost_ret (v := nodeV 1 z0 0 0 (.slice none 0 0)) (ret8 Tryz.results124 rfl (two_new w _ _)) rfl ?_
    rw [HT.out]; exact HX.out
  · have HT := Lib.hid (show useT cop t = (t, cop + leavesT t) by unfold useT; rw [if_neg hc])
    have hc' : ¬ (1000 : Int) < (cop : Int) := by omega
    go_enter Tryz.func124, Tryz.ntmps124
    go_wp2_with fail
    refine (copied_flat t _ p C i deep cop HR.out (by omega) HF.out HL.out).mono ?_
    rintro e w1 ⟨x, rfl, hs, hL1, hU1, hR1, hG1⟩
    have HQ1 := Lib.hid (box_on HQ.out (show p ≠ w.heap.size + 1 by omega) hG1)
    obtain ⟨d0, d1, d2, d3, d4, d5, d6, d7⟩ := cell8 (s := z0) HQ1.out
    obtain ⟨f0, f1, f2, f3, f4, f5, f6, f7⟩ := frozen8 (s := z0) HQ1.out
    have hz1 : w.heap.size + 1 + 1 ≤ w1.heap.size := by have := hG1.size; simpa using this
    have hU2 : Up (w.heap.size + 1 + 1) x := hU1.mono (by simp)
    have HX := Lib.hid (fin8r hR1 (gtrans (grown_of_below HB.out _) hG1) hp (show w.heap.size ≤ w.heap.size + 1 by omega) HQ1.out x.k x.s x.lo x.hi (.slice x.a x.n x.cap))
    have HL2 := Lib.hid (lives_put8u hU2 hL1 x.k x.s x.lo x.hi (.slice x.a x.n x.cap))
    have HU := Lib.hid (hU2.mono (show w.heap.size ≤ w.heap.size + 1 + 1 by omega))
    have HS := Lib.hid hs
    clear hs hL1 hU1 hR1 hG1 hU2
    unfold Tr.val
    go_wp2
    refine bodyPost_ret (v := x.val) (ret8 Tryz.results124 rfl HX.out.1) rfl ?_
    rw [HT.out]; exact ⟨x, rfl, HS.out, HL2.out, HU.out, HX.out.2.1, HX.out.2.2⟩
end Go.Proofs.YtnloepanbjgbaaaGreatDoor
/- The landed code's Name; strings.Cut at a brace. -/
namespace Go.Proofs.YtnloepanbjgbaaaGreatDoor
open Go.RowKit
def nmC (c : Int) : Bool := decide (c = 95) || (letC c || digC c)
def nameB (s : ByteArray) : Bool := decide (1 ≤ s.size) && (decide (s.size ≤ 12) && (!digC (nx s 0) && allTo (fun k => nmC (nx s k)) s.size))
theorem size_list (s : ByteArray) : s.toList.length = s.size := by rw [ByteArray.toList_eq, Array.length_toList]; rfl
set_option maxRecDepth 100000 in
set_option maxHeartbeats 2000000 in
theorem name_any (s : ByteArray) (w : World) (hs : s.size ≤ maxLen) : Calls Tryz.prog 16 #[.string s] w fun e w' => e = .returned (.bool (nameB s)) ∧ w = w' := by
  unfold maxLen at hs
  obtain ⟨R, hR⟩ : ∃ R, R = nameB s := ⟨_, rfl⟩
  rw [← hR]
  unfold nameB at hR
  have HE := Lib.hid hR
  clear hR
  by_cases h1 : 1 ≤ s.size
  · have e0 : s.toList.isEmpty = false := by
      have := size_list s
      cases q : s.toList with
      | nil => rw [q] at this; simp at this; omega
      | cons a l => rfl
    by_cases h2 : s.size ≤ 12
    · have i2 : ¬ (12 : Int) < (s.size : Int) := by omega
      have i1 : (0 : Int) < (s.size : Int) := by omega
      have i0 : 0 < s.size := by omega
      obtain ⟨x, hx⟩ : ∃ x, x = nx s 0 := ⟨_, rfl⟩
      have hwx : wrap64 ((s[0].toNat : Nat) : Int) = x := by rw [wrap_u8, hx, nx_in i0]
      rw [← hx] at HE
      clear hx
      cases hd : digC x
      · have HD := Lib.hid hd
        have HP := Lib.hid (show R = allTo (fun k => nmC (nx s k)) s.size by rw [HE.out]; simp [h1, h2, hd])
        clear hd
        go_enter Tryz.func16, Tryz.ntmps16
        go_wp2_with (go_at_call 32; refine (isDigit_any _ _).mono ?_; rintro e w' ⟨rfl, rfl⟩; rw [HD.out])
        clear hwx
        go_loop [20] (fun v => ∃ k : Nat, k ≤ s.size ∧ v = .int .i64 k ∧ Hid (allTo (fun k => nmC (nx s k)) k = true)) (fun v => s.size - (intOf v).toNat)
        case atStart => exact ⟨0, by omega, rfl, Lib.hid rfl⟩
        case round =>
          obtain ⟨k, hk, rfl, HA⟩ := hrel
          by_cases hlt : k < s.size
          · obtain ⟨y, hy⟩ : ∃ y, y = nx s k := ⟨_, rfl⟩
            have hwy : wrap64 ((s[k].toNat : Nat) : Int) = y := by rw [wrap_u8, hy, nx_in hlt]
            have HS := Lib.hid (show allTo (fun k => nmC (nx s k)) (k + 1) = nmC y by rw [allTo, HA.out, ← hy]; rfl)
            have HF := Lib.hid (fun (q : nmC y = false) => allTo_not (p := fun k => nmC (nx s k)) hlt (by show nmC (nx s k) = false; rw [← hy]; exact q))
            clear hy
            by_cases g1 : y = 95
            · have HT := Lib.hid (show nmC y = true by simp [nmC, g1])
              subst g1
              go_wp2
              go_round
              case rel => exact ⟨k + 1, by omega, by go_num, Lib.hid (HS.out.trans HT.out)⟩
              case measure => simp [intOf]; omega
            · have g1' : (y != 95) = true := by simp [g1]
              cases g2 : letC y
              · cases g3 : digC y
                · have HT := Lib.hid (HF.out (by simp [nmC, g1, g2, g3]))
                  have G2 := Lib.hid g2
                  have G3 := Lib.hid g3
                  clear g2 g3
                  go_wp2_with (first | (go_at_call 33; refine (isLetter_any _ _).mono ?_; rintro e w' ⟨rfl, rfl⟩; rw [G2.out]) | (go_at_call 32; refine (isDigit_any _ _).mono ?_; rintro e w' ⟨rfl, rfl⟩; rw [G3.out]))
                  go_ret
                  exact ⟨ret_bool (by rw [HP.out, HT.out]), rfl⟩
                · have HT := Lib.hid (show nmC y = true by simp [nmC, g3])
                  have G2 := Lib.hid g2
                  have G3 := Lib.hid g3
                  clear g2 g3
                  go_wp2_with (first | (go_at_call 33; refine (isLetter_any _ _).mono ?_; rintro e w' ⟨rfl, rfl⟩; rw [G2.out]) | (go_at_call 32; refine (isDigit_any _ _).mono ?_; rintro e w' ⟨rfl, rfl⟩; rw [G3.out]))
                  go_round
                  case rel => exact ⟨k + 1, by omega, by go_num, Lib.hid (HS.out.trans HT.out)⟩
                  case measure => simp [intOf]; omega
              · have HT := Lib.hid (show nmC y = true by simp [nmC, g2])
                have G2 := Lib.hid g2
                clear g2
                go_wp2_with (first | (go_at_call 33; refine (isLetter_any _ _).mono ?_; rintro e w' ⟨rfl, rfl⟩; rw [G2.out]))
                go_round
                case rel => exact ⟨k + 1, by omega, by go_num, Lib.hid (HS.out.trans HT.out)⟩
                case measure => simp [intOf]; omega
          · obtain rfl : s.size = k := by omega
            go_wp2
            go_ret
            exact ⟨ret_bool (by rw [HP.out, HA.out]), rfl⟩
      · have HD := Lib.hid hd
        have HP := Lib.hid (show R = false by rw [HE.out]; simp [hd])
        clear hd
        go_enter Tryz.func16, Tryz.ntmps16
        go_wp2_with (go_at_call 32; refine (isDigit_any _ _).mono ?_; rintro e w' ⟨rfl, rfl⟩; rw [HD.out])
        go_ret
        exact ⟨ret_bool HP.out.symm, rfl⟩
    · have HP := Lib.hid (show R = false by rw [HE.out]; simp [h2])
      have i2 : (12 : Int) < (s.size : Int) := by omega
      go_enter Tryz.func16, Tryz.ntmps16
      go_wp2
      go_ret
      exact ⟨ret_bool HP.out.symm, rfl⟩
  · have HP := Lib.hid (show R = false by rw [HE.out]; simp [h1])
    have e0 : s.toList.isEmpty = true := by
      have := size_list s
      cases q : s.toList with
      | nil => rfl
      | cons a l => rw [q] at this; simp at this; omega
    go_enter Tryz.func16, Tryz.ntmps16
    go_wp2
    go_ret
    exact ⟨ret_bool HP.out.symm, rfl⟩
/-- How far it is to the next closing brace, or to the end. -/
def cutN (s : ByteArray) : Nat := if Lib.indexByte s.data.toList 125 < 0 then s.size else (Lib.indexByte s.data.toList 125).toNat
set_option maxRecDepth 100000 in
set_option maxHeartbeats 2000000 in
theorem index_brace (s : ByteArray) (w : World) : Calls Tryz.prog 143 #[.string s, .string ⟨#[125]⟩] w fun e w' => e = .returned (.int .i64 (Lib.indexByte s.data.toList 125)) ∧ w = w' := by
  have HI := Lib.hid (indexByteL_any s 125)
  cases hq : ([125] == s.toList)
  · go_enter Tryz.func143, Tryz.ntmps143
    go_wp2_with (go_at_call 139; refine (HI.out _).mono ?_; rintro e w' ⟨rfl, rfl⟩)
    go_ret
    exact ⟨rfl, rfl⟩
  · have HX := Lib.hid (show Lib.indexByte s.data.toList 125 = 0 by
      have : s.toList = [125] := (eq_of_beq hq).symm
      rw [ByteArray.toList_eq] at this
      rw [this]; rfl)
    go_enter Tryz.func143, Tryz.ntmps143
    go_wp2
    go_ret
    exact ⟨ret_int HX.out.symm, rfl⟩
theorem index_le (s : ByteArray) (c : UInt8) : Lib.indexByte s.data.toList c < (s.size : Int) := by
  have : ∀ l : List UInt8, Lib.indexByte l c < (l.length : Int) := by
    intro l
    induction l with
    | nil => simp [Lib.indexByte]
    | cons b l ih =>
      unfold Lib.indexByte
      split
      · simp
      · split
        · simp; omega
        · simp; omega
  have h := this s.data.toList
  rwa [Array.length_toList] at h
theorem cutN_le (s : ByteArray) : cutN s ≤ s.size := by
  have := index_le s 125
  unfold cutN
  split <;> omega
/-- What Cut answers. -/
def cutV (s : ByteArray) : Value := if Lib.indexByte s.data.toList 125 < 0 then .tuple #[.string s, .string ⟨#[]⟩, .bool false] else .tuple #[.string (s.extract 0 (Lib.indexByte s.data.toList 125).toNat), .string (s.extract ((Lib.indexByte s.data.toList 125).toNat + 1) s.size), .bool true]
theorem cutV_is (s : ByteArray) : ∃ (r : ByteArray) (b : Bool), cutV s = .tuple #[.string (s.extract 0 (cutN s)), .string r, .bool b] := by
  unfold cutV cutN
  split
  · refine ⟨⟨#[]⟩, false, ?_⟩
    rw [show s.extract 0 s.size = s by first | exact ByteArray.extract_zero_size | simp]
  · exact ⟨_, _, rfl⟩
set_option maxRecDepth 100000 in
set_option maxHeartbeats 2000000 in
theorem cutL_any (s : ByteArray) (hs : s.size ≤ 10000) (w : World) : Calls Tryz.prog 136 #[.string s, .string ⟨#[125]⟩] w fun e w' => e = .returned (cutV s) ∧ ∃ m, w' = w.drewN m := by
  have hlt := index_le s 125
  have HI := Lib.hid (index_brace s)
  obtain ⟨x, hx⟩ : ∃ x, x = Lib.indexByte s.data.toList 125 := ⟨_, rfl⟩
  unfold cutV
  rw [← hx] at HI hlt ⊢
  clear hx
  by_cases h0 : 0 ≤ x
  · obtain ⟨m, rfl⟩ : ∃ m : Nat, x = (m : Int) := ⟨x.toNat, by omega⟩
    rw [if_neg (by omega), Int.toNat_natCast]
    have i1 : (m : Int) ≤ (s.size : Int) := by omega
    have i2 : (m : Int) + 1 ≤ (s.size : Int) := by omega
    have i3 : m ≤ s.size := by omega
    have i4 : m + 1 ≤ s.size := by omega
    go_enter Tryz.func136, Tryz.ntmps136
    go_wp2_with (go_at_call 143; refine (HI.out _).mono ?_; rintro e w' ⟨rfl, rfl⟩)
    go_quiet (fail)
    go_wp2
    go_ret3
    exact ⟨rfl, _, rfl⟩
  · rw [if_pos (by omega)]
    go_enter Tryz.func136, Tryz.ntmps136
    go_wp2_with (go_at_call 143; refine (HI.out _).mono ?_; rintro e w' ⟨rfl, rfl⟩)
    go_ret3
    exact ⟨rfl, 0, rfl⟩
set_option maxRecDepth 100000 in
set_option maxHeartbeats 2000000 in
theorem cut_any (s : ByteArray) (hs : s.size ≤ 10000) (w : World) : Calls Tryz.prog 123 #[.string s, .string ⟨#[125]⟩] w fun e w' => e = .returned (cutV s) ∧ ∃ m, w' = w.drewN m := by
  have HC := Lib.hid (cutL_any s hs)
  obtain ⟨r, b, hv⟩ := cutV_is s
  rw [hv] at HC ⊢
  clear hv
  generalize s.extract 0 (cutN s) = nm at *
  go_enter Tryz.func123, Tryz.ntmps123
  go_wp2_with fail
  refine (HC.out _).mono ?_
  rintro e w' ⟨rfl, m, rfl⟩
  go_wp2
  go_ret3
  exact ⟨rfl, _, rfl⟩
end Go.Proofs.YtnloepanbjgbaaaGreatDoor
/- The landed code's defined. -/
namespace Go.Proofs.YtnloepanbjgbaaaGreatDoor
open Go.RowKit
/-- The definitions: their names, and their patterns. -/
structure Df where
  nm : Nat → ByteArray
  dt : Nat → Tr
/-- The definitions lie in memory, ahead of the reader. -/
structure DfAt (w : World) (p : Nat) (C : Cx) (D : Df) : Prop where
  len : C.n ≤ 1000000
  row : 0 < C.n → ∃ g off, C.a = some ⟨g, off, none⟩ ∧ g < p ∧ ∀ i, i < C.n → w.cell? ⟨g, off + i * 9, none⟩ = some (.string (D.nm i)) ∧ At8 w g (off + i * 9 + 1) (D.dt i)
  tr : ∀ i, i < C.n → Lives w p (D.dt i) ∧ Flat (D.dt i)
theorem below_p {w w' : World} {p : Nat} (hp : p < w.heap.size) (hG : w.grownBy w' (some p)) : Below p w w' := ⟨hG.os, hG.tape, hG.output, hG.size, fun k hk => hG.block k (by omega) (fun e => by injection e; omega)⟩
theorem DfAt.on {w w' : World} {p : Nat} {C : Cx} {D : Df} (h : DfAt w p C D) (hp : p < w.heap.size) (hG : w.grownBy w' (some p)) : DfAt w' p C D := by
  have hb := below_p hp hG
  refine ⟨h.len, fun hn => ?_, fun i hi => ⟨(h.tr i hi).1.below hb, (h.tr i hi).2⟩⟩
  obtain ⟨g, off, ha, hg, hc⟩ := h.row hn
  exact ⟨g, off, ha, hg, fun i hi => ⟨(hb.cell (p := ⟨g, _, none⟩) hg).trans (hc i hi).1, (hc i hi).2.below hg hb⟩⟩
/-- The first definition of a name. -/
def findD (D : Df) (nm : ByteArray) : Nat → Nat → Option Tr
  | 0, _ => none
  | n + 1, j => if ((D.nm j).toList == nm.toList) = true then some (D.dt j) else findD D nm n (j + 1)
def nmAt (S : ByteArray) (i : Nat) : ByteArray := (S.extract i S.size).extract 0 (cutN (S.extract i S.size))
def definedP (S : ByteArray) (D : Df) (n i c : Nat) : Rs (Tr × Nat) :=
  if nameB (nmAt S (i + 1)) = false then .er 20 (i + 1) else
    if nx S (i + 1 + (nmAt S (i + 1)).size) = 125 then (match findD D (nmAt S (i + 1)) n 0 with
      | some t => .ok (useT c t) (i + 1 + (nmAt S (i + 1)).size + 1)
      | none => .er 21 (i + 1)) else .er 20 (i + 1 + (nmAt S (i + 1)).size)
theorem nmAt_size (S : ByteArray) (i : Nat) (hi : i ≤ S.size) : i + (nmAt S i).size ≤ S.size := by
  have h1 : (S.extract i S.size).size = S.size - i := by simp
  have h2 := cutN_le (S.extract i S.size)
  have h3 : (nmAt S i).size = cutN (S.extract i S.size) := by unfold nmAt; rw [ByteArray.size_extract]; omega
  omega
/-- In the midst of the definitions. -/
structure DeR (w : World) (p q : Nat) (C : Cx) (D : Df) (deep cop k : Nat) (nm : ByteArray) (F : Option Tr) (gk j : Nat) (wr : World) : Prop where
  sum : j + gk = C.n
  find : F = findD D nm gk j
  rd : Rd wr p C k deep cop
  df : DfAt wr p C D
  grown : w.grownBy wr (some p)
  br : wr.heap[q]? = some (.cells (row8 0 z0 0 0 (.slice none 0 0)) 31 (0, 0))
set_option maxRecDepth 100000 in
set_option maxHeartbeats 4000000 in
theorem defined_any (D : Df) (w : World) (p : Nat) (C : Cx) (i deep cop : Nat) (h : Rd w p C i deep cop) (hD : DfAt w p C D) (hi : i < C.S.size) : Calls Tryz.prog 110 #[rp p] w (PT w p C deep (definedP C.S D C.n i cop)) := by
  have hpq := h.lt
  have hz := h.sz
  obtain ⟨R, hR⟩ : ∃ R, R = definedP C.S D C.n i cop := ⟨_, rfl⟩
  rw [← hR]
  unfold definedP at hR
  have hsz := nmAt_size C.S (i + 1) (by omega)
  obtain ⟨nm, hnm⟩ : ∃ nm, nm = nmAt C.S (i + 1) := ⟨_, rfl⟩
  rw [← hnm] at hR hsz
  have HE := Lib.hid hR
  have HNM := Lib.hid hnm
  obtain ⟨c0, c1, c2, c3, c4, c5⟩ := h.cells
  have hf := h.free 3
  have hst := h.step (j := i + 1) (by omega) (v := (i : Int) + 1) (by omega)
  have hb1 := alloc_below (w.setCell ⟨p, 3, none⟩ (.int .i64 ((i : Int) + 1))) (.cells (row8 0 z0 0 0 (.slice none 0 0)) 31)
  have HR1 := Lib.hid (hst.1.below hb1)
  have HG1 := Lib.hid (gbelow hst.2 hb1)
  have HQ1 := Lib.hid (show ((w.setCell ⟨p, 3, none⟩ (.int .i64 ((i : Int) + 1))).alloc (.cells (row8 0 z0 0 0 (.slice none 0 0)) 31)).heap[w.heap.size]? = some (.cells (row8 0 z0 0 0 (.slice none 0 0)) 31 (0, 0)) by
    have := heap_alloc_new (w.setCell ⟨p, 3, none⟩ (.int .i64 ((i : Int) + 1))) (.cells (row8 0 z0 0 0 (.slice none 0 0)) 31)
    rwa [show (w.setCell ⟨p, 3, none⟩ (.int .i64 ((i : Int) + 1))).heap.size = w.heap.size by simp] at this)
  have HD1 := Lib.hid (hD.on hpq HG1.out)
  obtain ⟨q, hqq⟩ : ∃ q, q = w.heap.size := ⟨_, rfl⟩
  have hqs : w.heap.size ≤ q := by omega
  rw [← hqq] at HQ1
  have hTs : (C.S.extract (i + 1) C.S.size).size ≤ 10000 := by simp; omega
  obtain ⟨r, b, hcv⟩ := cutV_is (C.S.extract (i + 1) C.S.size)
  have HC := Lib.hid (cut_any (C.S.extract (i + 1) C.S.size) hTs)
  rw [hcv] at HC
  rw [show (C.S.extract (i + 1) C.S.size).extract 0 (cutN (C.S.extract (i + 1) C.S.size)) = nm by rw [hnm]; rfl] at HC
  clear hR hnm hst hb1 h hD hTs hcv
  go_enter Tryz.func110, Tryz.ntmps110
  go_wp2_with fail
  generalize hW : (w.setCell ⟨p, 3, none⟩ (.int .i64 ((i : Int) + 1))).alloc (.cells (row8 0 z0 0 0 (.slice none 0 0)) 31) = w1 at *
  rw [← hqq]
  clear hW hqq c0 c1 c2 c3 c4 c5 hf
  obtain ⟨c0, c1, c2, c3, c4, c5⟩ := HR1.out.cells
  have i1 : (i : Int) + 1 ≤ (C.S.size : Int) := by omega
  have i2 : i + 1 ≤ C.S.size := by omega
  go_quiet ((go_at_call 123; refine Calls.quiet_of (HC.out _)))
  have HR2 := Lib.hid (show Rd (w1.drewN nq) p C (i + 1) deep cop from HR1.out.below (below_drewN (Below.refl _ _) _))
  have HG2 := Lib.hid (show w.grownBy (w1.drewN nq) (some p) from gbelow HG1.out (below_drewN (Below.refl _ _) _))
  have HQ2 := Lib.hid (show (w1.drewN nq).heap[q]? = some (.cells (row8 0 z0 0 0 (.slice none 0 0)) 31 (0, 0)) from HQ1.out)
  have HD2 := Lib.hid (show DfAt (w1.drewN nq) p C D from HD1.out.on HR1.out.lt (grown_of_below (below_drewN (Below.refl _ _) _) _))
  generalize w1.drewN nq = w2 at *
  clear HR1 HG1 HQ1 HD1 HC c0 c1 c2 c3 c4 c5
  obtain ⟨c0, c1, c2, c3, c4, c5⟩ := HR2.out.cells
  have hnl : nm.size ≤ maxLen := by unfold maxLen; omega
  have HW := Lib.hid (wrong_any 20 w2 p C (i + 1) deep cop HR2.out)
  cases hn : nameB nm
  · have HP := Lib.hid (show R = .er 20 (i + 1) by rw [HE.out, if_pos hn])
    have HN := Lib.hid hn
    have HX := Lib.hid (fin8r HR2.out HG2.out hpq hqs HQ2.out 0 z0 0 0 (.slice none 0 0))
    obtain ⟨d0, d1, d2, d3, d4, d5, d6, d7⟩ := cell8 (s := z0) HQ2.out
    obtain ⟨f0, f1, f2, f3, f4, f5, f6, f7⟩ := frozen8 (s := z0) HQ2.out
    clear hn HE
    go_wp2_with (first | (go_at_call 16; refine (name_any nm _ hnl).mono ?_; rintro e w' ⟨rfl, rfl⟩; rw [HN.out]) | (go_at_call 45; refine HW.out.mono ?_; rintro e w' ⟨rfl, rfl⟩))
    exact bodyPost_ret (v := .tuple #[nodeV 0 z0 0 0 (.slice none 0 0), errV 20 (i + 1)]) (ret8t Tryz.results110 rfl rfl HX.out.1) rfl (by rw [HP.out]; exact ⟨HX.out.2.2, ⟨0, z0, 0, 0, none, 0, 0, rfl⟩, i2, _, _, HX.out.2.1⟩)
  · have HE2 := Lib.hid HE.out
    rw [if_neg (by rw [hn]; simp)] at HE2
    have HN := Lib.hid hn
    clear hn HE HW
    have hns : i + 1 + nm.size ≤ C.S.size := by omega
    have HW := Lib.hid (wrong_any 21 w2 p C (i + 1) deep cop HR2.out)
    have hf := HR2.out.free 3
    have hst := HR2.out.step (j := i + 1 + nm.size) hns (v := (i : Int) + 1 + (nm.size : Int)) (by omega)
    have HS3 := Lib.hid hst.1
    have HG3 := Lib.hid (gtrans HG2.out hst.2)
    have HQ3 := Lib.hid (box_on HQ2.out (show p ≠ q by omega) hst.2)
    have HD3 := Lib.hid (HD2.out.on HR2.out.lt hst.2)
    clear hst
    by_cases hm : nx C.S (i + 1 + nm.size) = 125
    · rw [if_pos hm] at HE2
      have HK := Lib.hid (skip_yes 125 _ p C (i + 1 + nm.size) deep cop HS3.out hm (by omega))
      clear hm
      go_wp2_with (first | (go_at_call 16; refine (name_any nm _ hnl).mono ?_; rintro e w' ⟨rfl, rfl⟩; rw [HN.out]) | (go_at_call 45; refine HW.out.mono ?_; rintro e w' ⟨rfl, rfl⟩))
      refine HK.out.mono ?_
      rintro e w4 ⟨rfl, hR4, hG4⟩
      have HR4 := Lib.hid hR4
      have HG4 := Lib.hid (gtrans HG3.out hG4)
      have HQ4 := Lib.hid (box_on HQ3.out (show p ≠ q by omega) hG4)
      have HD4 := Lib.hid (HD3.out.on HS3.out.lt hG4)
      obtain ⟨F, hF⟩ : ∃ F, F = findD D nm C.n 0 := ⟨_, rfl⟩
      rw [← hF] at HE2
      have HF := Lib.hid hF
      clear hF hR4 hG4 HK HS3 HG3 HQ3 HD3 HR2 HG2 HQ2 HD2 HW HN c0 c1 c2 c3 c4 c5 hf
      obtain ⟨c0, c1, c2, c3, c4, c5⟩ := HR4.out.cells
      go_wp2
      go_loopg [60] C.n (fun gk v wr => ∃ j : Nat, v = .int .i64 j ∧ DeR w p q C D deep cop (i + 1 + nm.size + 1) nm F gk j wr)
      case atStart => exact ⟨0, rfl, by omega, HF.out, HR4.out, HD4.out, HG4.out, HQ4.out⟩
      case round =>
        obtain ⟨j, rfl, hDe⟩ := hrel
        have hsum := hDe.sum
        have hlen := hDe.df.len
        have HDe := Lib.hid hDe
        clear c0 c1 c2 c3 c4 c5 HR4 HG4 HQ4 HD4 HF hDe
        cases gk with
        | zero =>
          have i3 : ¬ (j : Int) < (C.n : Int) := by omega
          have i4 : ¬ j < C.n := by omega
          have HP := Lib.hid (show R = .er 21 (i + 1) by rw [HE2.out, HDe.out.find, findD])
          have HX := Lib.hid (fin8r HDe.out.rd HDe.out.grown hpq hqs HDe.out.br 0 z0 0 0 (.slice none 0 0))
          obtain ⟨d0, d1, d2, d3, d4, d5, d6, d7⟩ := cell8 (s := z0) HDe.out.br
          obtain ⟨f0, f1, f2, f3, f4, f5, f6, f7⟩ := frozen8 (s := z0) HDe.out.br
          go_wp2
          exact bodyPost_ret (v := .tuple #[nodeV 0 z0 0 0 (.slice none 0 0), errV 21 (i + 1)]) (ret8t Tryz.results110 rfl rfl HX.out.1) rfl (by rw [HP.out]; exact ⟨HX.out.2.2, ⟨0, z0, 0, 0, none, 0, 0, rfl⟩, i2, _, _, HX.out.2.1⟩)
        | succ gk =>
          have hjn : j < C.n := by omega
          have i3 : (j : Int) < (C.n : Int) := by omega
          obtain ⟨g, off, ha, hg, hcs⟩ := HDe.out.df.row (by omega)
          rw [ha]
          have HA := Lib.hid ha
          obtain ⟨e0, h8⟩ := hcs j hjn
          obtain ⟨t, ht⟩ : ∃ t, t = D.dt j := ⟨_, rfl⟩
          obtain ⟨dn, hdn⟩ : ∃ dn, dn = D.nm j := ⟨_, rfl⟩
          rw [← ht] at h8
          rw [← hdn] at e0
          have e1 : wr.cell? ⟨g, off + j * 9 + 1, none⟩ = some (.int .i64 t.k) := h8.1
          have e2 : wr.cell? ⟨g, off + j * 9 + 2, none⟩ = some (.int .u64 (t.s 0)) := h8.2.1
          have e3 : wr.cell? ⟨g, off + j * 9 + 3, none⟩ = some (.int .u64 (t.s 1)) := h8.2.2.1
          have e4 : wr.cell? ⟨g, off + j * 9 + 4, none⟩ = some (.int .u64 (t.s 2)) := h8.2.2.2.1
          have e5 : wr.cell? ⟨g, off + j * 9 + 5, none⟩ = some (.int .u64 (t.s 3)) := h8.2.2.2.2.1
          have e6 : wr.cell? ⟨g, off + j * 9 + 6, none⟩ = some (.int .i64 t.lo) := h8.2.2.2.2.2.1
          have e7 : wr.cell? ⟨g, off + j * 9 + 7, none⟩ = some (.int .i64 t.hi) := h8.2.2.2.2.2.2.1
          have e8 : wr.cell? ⟨g, off + j * 9 + 8, none⟩ = some (.slice t.a t.n t.cap) := h8.2.2.2.2.2.2.2
          have hb5 := alloc_below wr (.cells #[.string dn, .int .i64 t.k, .int .u64 (t.s 0), .int .u64 (t.s 1), .int .u64 (t.s 2), .int .u64 (t.s 3), .int .i64 t.lo, .int .i64 t.hi, .slice t.a t.n t.cap] 66)
          have hplt := HDe.out.rd.lt
          have HR5 := Lib.hid (HDe.out.rd.below hb5)
          have HG5 := Lib.hid (gbelow HDe.out.grown hb5)
          have hq5 := (Array.getElem?_eq_some_iff.1 HDe.out.br).1
          have HQ5 := Lib.hid ((hb5.block q hq5).trans HDe.out.br)
          have HL5 := Lib.hid (show Lives _ _ t by rw [ht]; exact ((HDe.out.df.tr j hjn).1.mono (Nat.le_of_lt hplt)).now hb5)
          have HF5 := Lib.hid (show Flat t by rw [ht]; exact (HDe.out.df.tr j hjn).2)
          have HD5 := Lib.hid (HDe.out.df.on hplt (grown_of_below hb5 _))
          have HFI := Lib.hid (show F = if (dn.toList == nm.toList) = true then some t else findD D nm gk (j + 1) by rw [HDe.out.find, findD, ht, hdn])
          clear hcs h8 ha ht hdn hb5 HDe
          cases hnq : (dn.toList == nm.toList)
          · have HN := Lib.hid (show DeR w p q C D deep cop (i + 1 + nm.size + 1) nm F gk (j + 1) (wr.alloc (.cells #[.string dn, .int .i64 t.k, .int .u64 (t.s 0), .int .u64 (t.s 1), .int .u64 (t.s 2), .int .u64 (t.s 3), .int .i64 t.lo, .int .i64 t.hi, .slice t.a t.n t.cap] 66)) from
              ⟨by omega, by rw [HFI.out, if_neg (by rw [hnq]; simp)], HR5.out, HD5.out, HG5.out, HQ5.out⟩)
            clear HR5 HG5 HQ5 HL5 HF5 HD5 HFI
            go_wp2
            rw [← HA.out]
            go_roundg gk
            case rel => exact ⟨j + 1, by go_num, HN.out⟩
            case measure => omega
          · have HP := Lib.hid (show R = .ok (useT cop t) (i + 1 + nm.size + 1) by rw [HE2.out, HFI.out, if_pos hnq])
            have HU := Lib.hid (use_any dn t _ p C (i + 1 + nm.size + 1) deep cop HR5.out HF5.out HL5.out)
            clear HFI HL5 HF5 HD5
            go_wp2_with fail
            refine HU.out.mono ?_
            rintro e w6 ⟨x, rfl, hs, hL6, hU6, hR6, hG6⟩
            have HQ6 := Lib.hid (box_on HQ5.out (show p ≠ q by omega) hG6)
            have hU7 : Up (q + 1) x := hU6.mono (by simp; omega)
            have HX := Lib.hid (fin8r hR6 (gtrans HG5.out hG6) hpq hqs HQ6.out x.k x.s x.lo x.hi (.slice x.a x.n x.cap))
            have HL7 := Lib.hid (lives_put8u hU7 hL6 x.k x.s x.lo x.hi (.slice x.a x.n x.cap))
            have HU7 := Lib.hid (hU7.mono (show w.heap.size ≤ q + 1 by omega))
            have HS := Lib.hid hs
            obtain ⟨d0, d1, d2, d3, d4, d5, d6, d7⟩ := cell8 (s := z0) HQ6.out
            obtain ⟨f0, f1, f2, f3, f4, f5, f6, f7⟩ := frozen8 (s := z0) HQ6.out
            clear hs hL6 hU6 hR6 hG6 hU7 HU HR5 HG5 HQ5 e0 e1 e2 e3 e4 e5 e6 e7 e8
            unfold Tr.val
            go_wp2
            refine bodyPost_ret (v := .tuple #[x.val, .nilIface]) (ret8t Tryz.results110 rfl rfl HX.out.1) rfl ?_
            rw [HP.out]; exact ⟨HX.out.2.2, x, rfl, HS.out, HL7.out, HU7.out, HX.out.2.1⟩
    · rw [if_neg hm] at HE2
      have HK := Lib.hid (skip_no 125 _ p C (i + 1 + nm.size) deep cop HS3.out hm)
      have HX := Lib.hid (fin8r HS3.out HG3.out hpq hqs HQ3.out 0 z0 0 0 (.slice none 0 0))
      obtain ⟨d0, d1, d2, d3, d4, d5, d6, d7⟩ := cell8 (s := z0) HQ3.out
      obtain ⟨f0, f1, f2, f3, f4, f5, f6, f7⟩ := frozen8 (s := z0) HQ3.out
      clear hm
      go_wp2_with (first | (go_at_call 16; refine (name_any nm _ hnl).mono ?_; rintro e w' ⟨rfl, rfl⟩; rw [HN.out]) | (go_at_call 45; refine HW.out.mono ?_; rintro e w' ⟨rfl, rfl⟩))
      refine HK.out.mono ?_
      rintro e w' ⟨rfl, rfl⟩
      go_wp2
      exact bodyPost_ret (v := .tuple #[nodeV 0 z0 0 0 (.slice none 0 0), errV 20 (i + 1 + nm.size)]) (ret8t Tryz.results110 rfl rfl HX.out.1) rfl (by rw [HE2.out]; exact ⟨HX.out.2.2, ⟨0, z0, 0, 0, none, 0, 0, rfl⟩, hns, _, _, HX.out.2.1⟩)
end Go.Proofs.YtnloepanbjgbaaaGreatDoor
