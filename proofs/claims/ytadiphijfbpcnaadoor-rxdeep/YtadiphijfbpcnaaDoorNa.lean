/- Patterns that are built in place: what is kept while the box that holds one is written. -/
import Derived.Test.YtadiphijfbpcnaaDoorMe
namespace Go.Proofs.YtadiphijfbpcnaaDoor
open Go.RowKit
/-- None of a pattern's kids lies in the block. -/
def Off (x : Nat) : Tr → Prop
  | .node _ _ _ _ a n _ kid => (0 < n → ∀ g off, a = some ⟨g, off, none⟩ → g ≠ x) ∧ ∀ i, i < n → Off x (kid i)
  | .nul => True
theorem Lives.offX {w w' : World} {x : Nat} (hG : w.grownBy w' (some x)) {B : Nat} : ∀ {t : Tr}, Off x t → Lives w B t → Lives w' B t
  | .node k s lo hi a m cap kid, ho, ⟨hs, h1, h2, hc, hk⟩ => ⟨hs, h1, h2, fun hp => by
      obtain ⟨g, off, ha, hg, hc⟩ := hc hp
      refine ⟨g, off, ha, hg, fun i hi' => ?_⟩
      have hne : g ≠ x := ho.1 hp g off ha
      have hkeep : ∀ {c : Nat} {v : Value}, w.cell? ⟨g, c, none⟩ = some v → w'.cell? ⟨g, c, none⟩ = some v := fun h => hG.cell h (by simp; omega)
      obtain ⟨c0, c1, c2, c3, c4, c5, c6, c7⟩ := hc i hi'
      exact ⟨hkeep c0, hkeep c1, hkeep c2, hkeep c3, hkeep c4, hkeep c5, hkeep c6, hkeep c7⟩, fun i hi' => Lives.offX hG (t := kid i) (ho.2 i hi') (hk i hi')⟩
  | .nul, _, h => False.elim h
theorem Off.of_lt {w : World} {B x : Nat} (hB : B ≤ x) : ∀ {t : Tr}, Lives w B t → Off x t
  | .node k s lo hi a m cap kid, ⟨_, _, _, hc, hk⟩ => ⟨fun hp g off ha => by
      obtain ⟨g', off', ha', hg, _⟩ := hc hp
      rw [ha] at ha'
      cases ha'
      omega, fun i hi' => Off.of_lt hB (t := kid i) (hk i hi')⟩
  | .nul, h => False.elim h
/-- What holds of the box and the pattern in it. -/
structure Bx (w : World) (x : Nat) (t : Tr) (wr : World) : Prop where
  box : wr.heap[x]? = some (.cells (row8 t.k t.s t.lo t.hi (.slice t.a t.n t.cap)) 27 (0, 0))
  lives : Lives wr wr.heap.size t
  off : Off x t
  below : Below w.heap.size w wr
theorem Bx.now {w wr w' : World} {x : Nat} {t : Tr} (h : Bx w x t wr) (hb : Below wr.heap.size wr w') : Bx w x t w' :=
  ⟨(hb.block _ (Array.getElem?_eq_some_iff.1 h.box).1).trans h.box, h.lives.now hb, h.off, h.below.trans (hb.mono h.below.size)⟩
/-- The pattern in the box is put into a repetition. -/
theorem Bx.rep {w wr : World} {x : Nat} {t : Tr} (h : Bx w x t wr) (hx : w.heap.size ≤ x) (lo hi : Int) :
    Bx w x (repX lo hi wr.heap.size t) (put8 (wr.alloc (.cells (row8 t.k t.s t.lo t.hi (.slice t.a t.n t.cap)) 27)) x 5 z0 lo hi (.slice (some ⟨wr.heap.size, 0, none⟩) 1 1)) := by
  have hxl := (Array.getElem?_eq_some_iff.1 h.box).1
  have hb := alloc_below wr (.cells (row8 t.k t.s t.lo t.hi (.slice t.a t.n t.cap)) 27)
  have hn := h.now hb
  have hG := put8_grown (wr.alloc (.cells (row8 t.k t.s t.lo t.hi (.slice t.a t.n t.cap)) 27)) x 5 z0 lo hi (.slice (some ⟨wr.heap.size, 0, none⟩) 1 1)
  have hy := (hG.block wr.heap.size (by simp) (by simp; omega)).trans (heap_alloc_new wr (.cells (row8 t.k t.s t.lo t.hi (.slice t.a t.n t.cap)) 27))
  refine ⟨stored8 5 z0 lo hi _ hn.box, ⟨wf_z0, Nat.le_refl _, by unfold maxLen; omega, fun _ => ⟨wr.heap.size, 0, rfl, by rw [put8_size]; simp, fun i hi' => ?_⟩, fun i hi' => ?_⟩, ⟨fun _ g off ha => ?_, fun i _ => h.off⟩, ?_⟩
  · obtain rfl : i = 0 := by omega
    exact cell8 hy
  · rw [put8_size]; exact Lives.offX hG h.off hn.lives
  · cases ha; omega
  · exact (h.below.trans (hb.mono h.below.size)).trans (put8_below _ hx 5 z0 lo hi _)
theorem cnt_rep (lo hi : Int) (g : Nat) (t : Tr) : cnt (repX lo hi g t) = cnt t + 1 := by simp only [repX, cnt, sumTo]; omega
/-- The box gets a pattern whose kids are elsewhere. -/
theorem Bx.new {w wr : World} {x : Nat} {t0 : Value} {k0 lo0 hi0 : Int} {s0 : Nat → Int} (hbox : wr.heap[x]? = some (.cells (row8 k0 s0 lo0 hi0 t0) 27 (0, 0))) (hb : Below w.heap.size w wr) (hx : w.heap.size ≤ x) (t : Tr) (ht : Off x t) (hL : Lives wr wr.heap.size t) :
    Bx w x t (put8 wr x t.k t.s t.lo t.hi (.slice t.a t.n t.cap)) :=
  ⟨stored8 t.k t.s t.lo t.hi _ hbox, by rw [put8_size]; exact Lives.offX (put8_grown _ _ _ _ _ _ _) ht hL, ht, hb.trans (put8_below _ hx _ _ _ _ _)⟩
/-- A row of like patterns that grows. -/
structure Gr (w : World) (x : Nat) (kind : Int) (l : Tr) (j : Nat) (v : Value) (wr : World) : Prop where
  box : wr.heap[x]? = some (.cells (row8 kind z0 0 0 v) 27 (0, 0))
  own : wr.ownsRow (x + 1) 27 8 v j (flatT (List.replicate j l))
  below : Below w.heap.size w wr
theorem Gr.lt {w wr : World} {x j : Nat} {kind : Int} {l : Tr} {v : Value} (h : Gr w x kind l j v wr) : x < wr.heap.size := (Array.getElem?_eq_some_iff.1 h.box).1
theorem Gr.now {w wr w' : World} {x j : Nat} {kind : Int} {l : Tr} {v : Value} (h : Gr w x kind l j v wr) (hb : Below wr.heap.size wr w') : Gr w x kind l j v w' :=
  ⟨(hb.block _ h.lt).trans h.box, ownsRow_below h.own hb, h.below.trans (hb.mono h.below.size)⟩
theorem Gr.ne {w wr : World} {x j : Nat} {kind : Int} {l : Tr} {v : Value} (h : Gr w x kind l j v wr) : some x ≠ v.ownBlock := fun e => by have := (h.own.lt _ e.symm).1; omega
theorem Gr.next {w wr w1 : World} {x j : Nat} {kind : Int} {l : Tr} {v v1 : Value} (h : Gr w x kind l j v wr) (hx : w.heap.size ≤ x) (hg : wr.grownBy w1 v.ownBlock) (hown : w1.ownsRow (x + 1) 27 8 v1 (j + 1) (flatT (List.replicate j l) ++ cells8 l)) :
    Gr w x kind l (j + 1) v1 (w1.setCell ⟨x, 7, none⟩ v1) := by
  have hbx := (hg.block x h.lt h.ne).trans h.box
  have hb1 : Below w.heap.size w w1 := h.below.trans ((grown_below h.own h.lt hg).mono (by omega))
  refine ⟨by rw [heap_setCell_same _ x 7 _ _ v1 hbx]; simp, ?_, hb1.setCell (show w.heap.size ≤ x from hx) _⟩
  rw [List.replicate_succ', flatT_append, flatT_one]
  exact own_setCell hown (by omega)
/-- The row as a pattern. -/
theorem Gr.bx {w wr : World} {x j : Nat} {kind : Int} {l : Tr} {v : Value} (h : Gr w x kind l j v wr) (hj : 1 ≤ j) (hl : ∀ w B, Lives w B l) (ho : Off x l) (hc : cnt l = 1) : ∃ t, Bx w x t wr ∧ cnt t = 1 + j ∧ v = .slice t.a t.n t.cap := by
  have hown := h.own
  have hlen : (List.replicate j l).length = j := by simp
  rw [← hlen] at hown
  obtain ⟨g, cap, rfl, hg, _, hL⟩ := rowT_lives kind (by rw [hlen] at hown ⊢; exact hown) (by rw [hlen]; exact hj) (B := wr.heap.size) (fun u hu => by rw [List.eq_of_mem_replicate hu]; exact hl _ _) (Nat.le_refl _)
  refine ⟨rowT kind (some ⟨g, 0, none⟩) cap (List.replicate j l), ⟨h.box, hL, ⟨fun _ g' off' ha => ?_, fun i hi => ?_⟩, h.below⟩, ?_, rfl⟩
  · cases ha; omega
  · show Off x ((List.replicate j l).getD i .nul)
    rw [List.eq_of_mem_replicate (getD_mem hi)]; exact ho
  · rw [rowT_cnt]; congr 1; simp [cntL, hc]
/-- The box gets a repetition of a pattern without parts. -/
theorem Bx.rep1 {w wr : World} {x : Nat} {l : Tr} {k0 lo0 hi0 : Int} {s0 : Nat → Int} {v0 : Value} (hbox : wr.heap[x]? = some (.cells (row8 k0 s0 lo0 hi0 v0) 27 (0, 0))) (hb0 : Below w.heap.size w wr) (hx : w.heap.size ≤ x) (hl : ∀ w B, Lives w B l) (ho : Off x l) (lo hi : Int) :
    Bx w x (repX lo hi wr.heap.size l) (put8 (wr.alloc (.cells (row8 l.k l.s l.lo l.hi (.slice l.a l.n l.cap)) 27)) x 5 z0 lo hi (.slice (some ⟨wr.heap.size, 0, none⟩) 1 1)) := by
  have hxl := (Array.getElem?_eq_some_iff.1 hbox).1
  have hb := alloc_below wr (.cells (row8 l.k l.s l.lo l.hi (.slice l.a l.n l.cap)) 27)
  have hG := put8_grown (wr.alloc (.cells (row8 l.k l.s l.lo l.hi (.slice l.a l.n l.cap)) 27)) x 5 z0 lo hi (.slice (some ⟨wr.heap.size, 0, none⟩) 1 1)
  have hy := (hG.block wr.heap.size (by simp) (by simp; omega)).trans (heap_alloc_new wr (.cells (row8 l.k l.s l.lo l.hi (.slice l.a l.n l.cap)) 27))
  refine ⟨stored8 5 z0 lo hi _ ((hb.block _ hxl).trans hbox), ⟨wf_z0, Nat.le_refl _, by unfold maxLen; omega, fun _ => ⟨wr.heap.size, 0, rfl, by rw [put8_size]; simp, fun i hi' => ?_⟩, fun i hi' => hl _ _⟩, ⟨fun _ g off ha => ?_, fun i _ => ho⟩, ?_⟩
  · obtain rfl : i = 0 := by omega
    exact cell8 hy
  · cases ha; omega
  · exact (hb0.trans (hb.mono hb0.size)).trans (put8_below _ hx 5 z0 lo hi _)
/-- The box's cells when something has been made since. -/
theorem alloc_cell8 {w : World} {x : Nat} {k : Int} {s : Nat → Int} {lo hi : Int} {v : Value} (h : w.heap[x]? = some (.cells (row8 k s lo hi v) 27 (0, 0))) (o : Obj) : (w.alloc o).heap[x]? = some (.cells (row8 k s lo hi v) 27 (0, 0)) := ((alloc_below w o).block _ (Array.getElem?_eq_some_iff.1 h).1).trans h
end Go.Proofs.YtadiphijfbpcnaaDoor
