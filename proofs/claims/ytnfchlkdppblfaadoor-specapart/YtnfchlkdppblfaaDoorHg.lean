/- The law's Made of layer 6: right rules by numbers. -/
import Derived.Test.YtnfchlkdppblfaaDoorHf
import Derived.Deep.RegionHeld3
namespace Go.Proofs.YtnfchlkdppblfaaDoor
open Go.RowKit Go
/-- The box of the specification, still empty. -/
abbrev boxZ : Obj := .cells #[.slice none 0 0, .bool false, .slice none 0 0] 38
def BxZ (w : World) (x : Nat) : Prop := w.heap[x]? = some (.cells #[.slice none 0 0, .bool false, .slice none 0 0] 38 (0, 0))
theorem BxZ.alloc {w : World} {x : Nat} (h : BxZ w x) (o : Obj) : BxZ (w.alloc o) x := alloc_keep h
theorem BxZ.cells {w : World} {x : Nat} (h : BxZ w x) : (w.cell? ⟨x, 0, none⟩ = some (.slice none 0 0) ∧ w.cell? ⟨x, 1, none⟩ = some (.bool false) ∧ w.cell? ⟨x, 2, none⟩ = some (.slice none 0 0)) ∧ w.frozen? ⟨x, 0, none⟩ = false ∧ w.frozen? ⟨x, 1, none⟩ = false ∧ w.frozen? ⟨x, 2, none⟩ = false :=
  ⟨⟨cell_of_row w x 0 _ _ _ h, cell_of_row w x 1 _ _ _ h, cell_of_row w x 2 _ _ _ h⟩, frozen_of_row _ _ 0 _ _ h, frozen_of_row _ _ 1 _ _ h, frozen_of_row _ _ 2 _ _ h⟩
/-- Before the specification stands: the maker, the box of the answer. -/
structure Bs (w : World) (p : Nat) (a : Option Addr) (n cap : Nat) (F : Nat → Int) (W : World) : Prop where
  mkr : ∃ A, A ≤ 3 ∧ Mk W p a n cap F A
  bel : Below w.heap.size w W
  old : w.heap.size < p
  out : BxZ W w.heap.size
/-- The box is made; the conditions are. -/
def BxP (p : Nat) (W : World) (x : Nat) : Prop := BxZ W x ∧ p < x
def CnP (p : Nat) (W : World) (c : Nat) (ex : Bool) : Prop := W.heap[c]? = some (.cells (row6 ex) 48 (0, 0)) ∧ p < c
theorem grown_keep {W W' : World} {p g : Nat} {ob : Obj} (hG : W.grownBy W' (some p)) (h : g ≠ p) (h1 : W.heap[g]? = some ob) : W'.heap[g]? = some ob := (hG.block g (lt_of_heap h1) (fun e => h (Option.some.inj e))).trans h1
theorem Bs.pick {w : World} {p : Nat} {a : Option Addr} {n cap : Nat} {F : Nat → Int} {W W' : World} {A : Nat} (h : Bs w p a n cap F W) (hM : Mk W' p a n cap F A) (hA : A ≤ 3) (hG : W.grownBy W' (some p)) : Bs w p a n cap F W' := by
  have ho := h.old
  exact ⟨⟨A, hA, hM⟩, grown_below_p h.bel hG (by omega), ho, grown_keep hG (by omega) h.out⟩
theorem Bs.below {w : World} {p : Nat} {a : Option Addr} {n cap : Nat} {F : Nat → Int} {W W' : World} (h : Bs w p a n cap F W) (hb : Below W.heap.size W W') : Bs w p a n cap F W' := by
  obtain ⟨A, hA, hM⟩ := h.mkr
  exact h.pick (hM.below hb) hA (grown_of_below hb _)
theorem Bs.alloc {w : World} {p : Nat} {a : Option Addr} {n cap : Nat} {F : Nat → Int} {W : World} (h : Bs w p a n cap F W) (o : Obj) : Bs w p a n cap F (W.alloc o) := h.below (alloc_below W o)
theorem Bs.lt {w : World} {p : Nat} {a : Option Addr} {n cap : Nat} {F : Nat → Int} {W : World} (h : Bs w p a n cap F W) : p < W.heap.size := by
  obtain ⟨A, _, hM⟩ := h.mkr; exact hM.lt
theorem BxP.pick {p x : Nat} {W W' : World} (h : BxP p W x) (hG : W.grownBy W' (some p)) : BxP p W' x := ⟨grown_keep hG (by have := h.2; omega) h.1, h.2⟩
theorem BxP.alloc {p x : Nat} {W : World} (h : BxP p W x) (o : Obj) : BxP p (W.alloc o) x := ⟨alloc_keep h.1, h.2⟩
theorem CnP.pick {p x : Nat} {ex : Bool} {W W' : World} (h : CnP p W x ex) (hG : W.grownBy W' (some p)) : CnP p W' x ex := ⟨grown_keep hG (by have := h.2; omega) h.1, h.2⟩
theorem CnP.alloc {p x : Nat} {ex : Bool} {W : World} (h : CnP p W x ex) (o : Obj) : CnP p (W.alloc o) x ex := ⟨alloc_keep h.1, h.2⟩
theorem Bs.drew {w : World} {p : Nat} {a : Option Addr} {n cap : Nat} {F : Nat → Int} {W : World} (h : Bs w p a n cap F W) : Bs w p a n cap F W.drew := h.below (Below.refl _ _).drew
theorem BxP.drew {p x : Nat} {W : World} (h : BxP p W x) : BxP p W.drew x := h
theorem CnP.drew {p x : Nat} {ex : Bool} {W : World} (h : CnP p W x ex) : CnP p W.drew x ex := h
theorem BxP.new {w : World} {a : Option Addr} {n cap : Nat} {F : Nat → Int} {W : World} {x : Nat} (h : Bs w (w.heap.size + 1) a n cap F W) (hx : x = W.heap.size) : BxP (w.heap.size + 1) (W.alloc (.cells #[.slice none 0 0, .bool false, .slice none 0 0] 38)) x := by
  subst hx; exact ⟨heap_alloc_new W _, h.lt⟩
theorem CnP.new {w : World} {a : Option Addr} {n cap : Nat} {F : Nat → Int} {W : World} {c : Nat} {ex : Bool} (h : Bs w (w.heap.size + 1) a n cap F W) (hc : c = W.heap.size) : CnP (w.heap.size + 1) (W.alloc (.cells #[.string ⟨#[73, 78, 73, 84, 73, 65, 76]⟩, .bool false, .string ⟨#[66]⟩, .bool ex, .string ⟨#[67, 95, 49]⟩, .bool false] 48)) c ex := by
  subst hc; exact ⟨heap_alloc_new W _, h.lt⟩
set_option maxRecDepth 100000 in
theorem bs_fin {w : World} {p : Nat} {a : Option Addr} {n cap : Nat} {F : Nat → Int} {W : World} {x c k : Nat} {ex b : Bool} (h : Bs w p a n cap F W) (hx : BxP p W x) (hcn : CnP p W c ex) :
    ∃ A, A ≤ 3 ∧ MdI w p a n cap F x c k ex b ⟨none, 0, 0, fun _ => rZ⟩ A (((W.setCell ⟨x, 0, none⟩ (.slice (some ⟨c, 0, none⟩) k 3)).setCell ⟨x, 1, none⟩ (.bool b)).setCell ⟨x, 2, none⟩ (.slice none 0 0)) := by
  obtain ⟨A, hA, hM⟩ := h.mkr
  obtain ⟨hb, hpx⟩ := hx
  obtain ⟨hc, hpc⟩ := hcn
  have ho := h.old
  have hxc : x ≠ c := fun e => by
    subst e
    have := hb.symm.trans hc
    simp at this
  have e1 := heap_setCell_same W x 0 _ _ (.slice (some ⟨c, 0, none⟩) k 3) hb
  have e2 := heap_setCell_same _ x 1 _ _ (.bool b) e1
  have e3 := heap_setCell_same _ x 2 _ _ (.slice none 0 0) e2
  have hst : ∀ g, g ≠ x → (((W.setCell ⟨x, 0, none⟩ (.slice (some ⟨c, 0, none⟩) k 3)).setCell ⟨x, 1, none⟩ (.bool b)).setCell ⟨x, 2, none⟩ (.slice none 0 0)).heap[g]? = W.heap[g]? := fun g hg =>
    (Below.heap_setCell _ _ _ _ hg).trans ((Below.heap_setCell _ _ _ _ hg).trans (Below.heap_setCell _ _ _ _ hg))
  have hB : Below w.heap.size w (((W.setCell ⟨x, 0, none⟩ (.slice (some ⟨c, 0, none⟩) k 3)).setCell ⟨x, 1, none⟩ (.bool b)).setCell ⟨x, 2, none⟩ (.slice none 0 0)) := ((h.bel.setCell (by show w.heap.size ≤ x; omega) _).setCell (by show w.heap.size ≤ x; omega) _).setCell (by show w.heap.size ≤ x; omega) _
  refine ⟨A, hA, e3, (hst c (by omega)).trans hc, (hst _ (by omega)).trans h.out, ⟨(hst p (by omega)).trans hM.box, fun hn => ?_⟩, hB, ⟨ho, hpx, hpc, hxc⟩, ⟨Nat.le_refl _, Nat.zero_le _, fun _ _ => rfl, Or.inl ⟨rfl, rfl, rfl⟩⟩, fun i hi => absurd hi (by show ¬ i < 0; omega)⟩
  obtain ⟨g, off, ha, hgp, hcl⟩ := hM.row hn
  exact ⟨g, off, ha, hgp, fun i hi => (World.cell?_of_block (a := ⟨g, off + i, none⟩) (hst g (by omega))).trans (hcl i hi)⟩
theorem md_mk {w : World} {p : Nat} {a : Option Addr} {n cap : Nat} {F : Nat → Int} {W : World} {x c k : Nat} {ex b : Bool} (h : Bs w p a n cap F W) (hx : W.heap[x]? = some (.cells #[.slice (some ⟨c, 0, none⟩) k 3, .bool b, .slice none 0 0] 38 (0, 0))) (hpx : p < x) (hcn : CnP p W c ex) :
    ∃ A, A ≤ 3 ∧ MdI w p a n cap F x c k ex b ⟨none, 0, 0, fun _ => rZ⟩ A W := by
  obtain ⟨A, hA, hM⟩ := h.mkr
  obtain ⟨hc, hpc⟩ := hcn
  have hxc : x ≠ c := fun e => by
    subst e
    have := hx.symm.trans hc
    simp at this
  exact ⟨A, hA, hx, hc, h.out, hM, h.bel, ⟨h.old, hpx, hpc, hxc⟩, ⟨Nat.le_refl _, Nat.zero_le _, fun _ _ => rfl, Or.inl ⟨rfl, rfl, rfl⟩⟩, fun i hi => absurd hi (by show ¬ i < 0; omega)⟩
theorem bs_fin2 {w : World} {p : Nat} {a : Option Addr} {n cap : Nat} {F : Nat → Int} {W : World} {x c k : Nat} {ex b : Bool} (h : Bs w p a n cap F W) (hcn : CnP p W c ex) (hx : x = W.heap.size) :
    ∃ A, A ≤ 3 ∧ MdI w p a n cap F x c k ex b ⟨none, 0, 0, fun _ => rZ⟩ A (W.alloc (.cells #[.slice (some ⟨c, 0, none⟩) k 3, .bool b, .slice none 0 0] 38)) :=
  md_mk (h.alloc _) (by subst hx; exact heap_alloc_new W _) (by subst hx; exact h.lt) (hcn.alloc _)
theorem bs_fin3 {w : World} {p : Nat} {a : Option Addr} {n cap : Nat} {F : Nat → Int} {W : World} {x c k : Nat} {ex b : Bool} (h : Bs w p a n cap F W) (hx : x = W.heap.size) (hc : c = W.heap.size + 1) :
    ∃ A, A ≤ 3 ∧ MdI w p a n cap F x c k ex b ⟨none, 0, 0, fun _ => rZ⟩ A ((W.alloc (.cells #[.slice (some ⟨c, 0, none⟩) k 3, .bool b, .slice none 0 0] 38)).alloc (.cells #[.string ⟨#[73, 78, 73, 84, 73, 65, 76]⟩, .bool false, .string ⟨#[66]⟩, .bool ex, .string ⟨#[67, 95, 49]⟩, .bool false] 48)) := by
  have hl := h.lt
  have e : (W.alloc (.cells #[.slice (some ⟨c, 0, none⟩) k 3, .bool b, .slice none 0 0] 38)).heap.size = c := by rw [hc]; simp
  have hn := heap_alloc_new (W.alloc (.cells #[.slice (some ⟨c, 0, none⟩) k 3, .bool b, .slice none 0 0] 38)) (.cells #[.string ⟨#[73, 78, 73, 84, 73, 65, 76]⟩, .bool false, .string ⟨#[66]⟩, .bool ex, .string ⟨#[67, 95, 49]⟩, .bool false] 48)
  rw [e] at hn
  exact md_mk ((h.alloc _).alloc _) (by rw [hx]; exact alloc_keep (heap_alloc_new W _)) (by omega) ⟨hn, by omega⟩
theorem RlK.below {W W' : World} {B : Nat} {own : Option Nat} {r : Rl} {k : Nat} (h : RlK W B own r k) (hb : Below W.heap.size W W') : RlK W' B own r k := h.keep (keepF_below hb) hb.size (fun g _ h2 _ => hb.block g h2) fun _ _ _ q => q
theorem box3 {w : World} {x : Nat} {v0 v1 v2 : Value} {e : TypeId} (h : w.heap[x]? = some (.cells #[v0, v1, v2] e (0, 0))) : w.cell? ⟨x, 0, none⟩ = some v0 ∧ w.cell? ⟨x, 1, none⟩ = some v1 ∧ w.cell? ⟨x, 2, none⟩ = some v2 :=
  ⟨cell_of_row w x 0 _ _ _ h, cell_of_row w x 1 _ _ _ h, cell_of_row w x 2 _ _ _ h⟩
theorem MdI.done {w : World} {p : Nat} {a : Option Addr} {n cap : Nat} {F : Nat → Int} {x c k : Nat} {ex b : Bool} {l : Rs} {A : Nat} {W : World} (h : MdI w p a n cap F x c k ex b l A W) (hk1 : 1 ≤ k) (hk3 : k ≤ 3) (h1 : 1 ≤ l.n) (h4 : l.n ≤ 4) :
    SpMade w (.returned (specV ⟨csM c k ex, b, l⟩)) (((W.setCell ⟨w.heap.size, 0, none⟩ (.slice (some ⟨c, 0, none⟩) k 3)).setCell ⟨w.heap.size, 1, none⟩ (.bool b)).setCell ⟨w.heap.size, 2, none⟩ (.slice l.a l.n l.cap)) ∧
      (((W.setCell ⟨w.heap.size, 0, none⟩ (.slice (some ⟨c, 0, none⟩) k 3)).setCell ⟨w.heap.size, 1, none⟩ (.bool b)).setCell ⟨w.heap.size, 2, none⟩ (.slice l.a l.n l.cap)).heap[w.heap.size]? = some (.cells (row3 ⟨csM c k ex, b, l⟩) 38 (0, 0)) := by
  have e1 := heap_setCell_same W w.heap.size 0 _ _ (.slice (some ⟨c, 0, none⟩) k 3) h.out
  have e2 := heap_setCell_same _ w.heap.size 1 _ _ (.bool b) e1
  have e3 := heap_setCell_same _ w.heap.size 2 _ _ (.slice l.a l.n l.cap) e2
  refine ⟨h.fin hk1 hk3 h1 h4 (by simp) (fun g hg => (Below.heap_setCell _ _ _ _ hg).trans ((Below.heap_setCell _ _ _ _ hg).trans (Below.heap_setCell _ _ _ _ hg))) (((h.bel.setCell (Nat.le_refl _) _).setCell (Nat.le_refl _) _).setCell (Nat.le_refl _) _), e3⟩
set_option maxRecDepth 100000 in
theorem infoSp : (Tryd.prog.info? 38).map (·.size) = some 3 := by kernel_rfl
theorem ret3 {fn : Func} {q : Tmp} (h : fn.results = #[.cell q 38]) {tmps : Array Value} {w : World} {g : Nat} {s : Sp} (hp : tmps.getD q undef = .pointer (some ⟨g, 0, none⟩)) (hg : w.heap[g]? = some (.cells (row3 s) 38 (0, 0))) :
    (results fn tmps).run Tryd.prog w = .ok (specV s) w :=
  results_cell_row h tmps w g 38 _ _ _ hp hg Tryd.underlying38 rfl infoSp
theorem withP {P Q : Prop} (hp : P) (h : P → Q) : Q := h hp
/-- The loop over the rules. -/
def LpM (w : World) (p : Nat) (a : Option Addr) (n cap : Nat) (F : Nat → Int) (x c k : Nat) (ex b : Bool) (i : Value) (wr : World) : Prop :=
  ∃ (j : Nat) (l : Rs) (A : Nat), i = .int .i64 j ∧ j + l.n ≤ 4 ∧ 1 ≤ j + l.n ∧ A ≤ 4 + 60 * l.n ∧ MdI w p a n cap F x c k ex b l A wr
set_option maxRecDepth 100000 in
set_option maxHeartbeats 16000000 in
theorem mmade_any (b : Bool) (w : World) (a : Option Addr) (n cap : Nat) (F : Nat → Int) (h : ByteRow w a n F) (hF : ∀ i, 0 ≤ F i ∧ F i < 256) (hn : n ≤ cap) (hc : cap ≤ maxLen) :
    Calls Tryd.prog 10 #[.slice a n cap, .bool b] w (SpMade w) := by
  have HF := Lib.hid hF
  unfold maxLen at hc
  have HROW0 := Lib.hid h
  clear h hF
  go_enter Tryd.func10, Tryd.ntmps10
  go_upto_if 11 with (fail)
  go_cut [0] from 9 to 13 (fun v wc => ∃ m : Nat, v = .slice a m cap ∧ m ≤ 60 ∧ m ≤ n ∧ wc = w.alloc (.cells #[.slice none 0 0, .bool false, .slice none 0 0] 38))
  case first =>
    by_cases q : 60 < n
    · have q' : (60 : Int) < (n : Int) := by omega
      have q2 : (60 : Int) ≤ (cap : Int) := by omega
      go_wp2
      go_meet
      exact ⟨60, rfl, by omega, by omega, rfl⟩
    · have q' : ¬ (60 : Int) < (n : Int) := by omega
      go_wp2
      go_meet
      exact ⟨n, rfl, by omega, by omega, rfl⟩
  case rest =>
  obtain ⟨m, rfl, h60, hmn, rfl⟩ := hcut
  have HROW := Lib.hid (HROW0.out.part hmn)
  have hmc : m ≤ cap := by omega
  clear HROW0 hn hmn
  obtain ⟨n, rfl⟩ : ∃ x, x = m := ⟨_, rfl⟩
  go_upto_region 5 with (first
    | (go_at_call 27; refine (pick_any 3 (by omega) (by omega) _ (w.heap.size + 1) a n cap F 0 (mk_new (o := .cells #[.slice none 0 0, .bool false, .slice none 0 0] 38) HROW.out) HF.out h60 (by omega)).mono ?_; rintro e w1 ⟨r1, rfl, hr0, hr1, hM1, hG1⟩))
  have HM1 := Lib.hid hM1
  have hp1 := hM1.lt
  have HSa : Hid (Bs w (w.heap.size + 1) a n cap F w1) := Lib.hid (by
    have hb0 : Below w.heap.size w ((w.alloc (.cells #[.slice none 0 0, .bool false, .slice none 0 0] 38)).alloc (.cells #[.slice a n cap, .int .i64 0] 53)) := (alloc_below _ _).alloc (by simp) _
    have ho0 : BxZ w1 w.heap.size := (hG1.block _ (by simp; omega) (fun e => by have := Option.some.inj e; omega)).trans (alloc_keep (heap_alloc_new w _))
    have hs : Bs w (w.heap.size + 1) a n cap F w1 := ⟨⟨1, by omega, hM1⟩, grown_below_p hb0 hG1 (by omega), by omega, ho0⟩
    exact hs)
  have HS0 := Lib.hid HSa.out.drew
  obtain ⟨k, hk⟩ : ∃ k : Nat, 1 + r1 = (k : Int) := ⟨(1 + r1).toNat, by omega⟩
  have hk1 : 1 ≤ k := by omega
  have hk3 : k ≤ 3 := by omega
  have hk3' : (k : Int) ≤ 3 := by omega
  clear hM1 hG1
  rw [hk]
  clear hk hr0 hr1
  have HP2 := Lib.hid (fun W (hM : Mk W (w.heap.size + 1) a n cap F 1) => pick_any 2 (by omega) (by omega) W (w.heap.size + 1) a n cap F 1 hM HF.out h60 (by omega))
  have HP3 := Lib.hid (fun W (hM : Mk W (w.heap.size + 1) a n cap F 2) => pick_any 3 (by omega) (by omega) W (w.heap.size + 1) a n cap F 2 hM HF.out h60 (by omega))
  go_cut [7] from 20 to 32 (fun s wc => ∃ (x c : Nat) (ex bd : Bool), s = .pointer (some ⟨x, 0, none⟩) ∧ ∃ A, A ≤ 3 ∧ MdI w (w.heap.size + 1) a n cap F x c k ex bd ⟨none, 0, 0, fun _ => rZ⟩ A wc)
  case first =>
    first | (go_region_held3 (fun _ => True) (trivial)
      (first
        | (go_at_call 27; refine (HP2.out _ ?_).mono ?_; (first | (with_reducible exact mk_drew HM1.out) | (with_reducible exact (mk_drew HM1.out).below (alloc_below _ _))); clear HP2; rintro e w2 ⟨r2, rfl, h20, h22, hM2, hG2⟩; have hp2 := hM2.lt)
        | (go_at_call 27; refine (HP3.out _ ?_).mono ?_; (first | (with_reducible exact hM2) | (with_reducible exact hM2.below (alloc_below _ _)) | (with_reducible exact (hM2.below (alloc_below _ _)).below (alloc_below _ _))); clear HP3; rintro e w3 ⟨r3, rfl, h30, h33, hM3, hG3⟩; first
            | (refine withP (P := BxP (w.heap.size + 1) w3 w1.heap.size) ?_ ?_; (focus ((repeat (first | exact HS0.out | exact HSa.out | (with_reducible refine BxP.drew ?_) | (with_reducible refine CnP.drew ?_) | (with_reducible refine Bs.drew ?_) | (with_reducible refine BxP.new (a := a) (n := n) (cap := cap) (F := F) ?_ ?hx; (case hx => (first | (with_reducible rfl) | (simp; done) | rfl))) | (with_reducible refine CnP.new (a := a) (n := n) (cap := cap) (F := F) ?_ ?hx; (case hx => (first | (with_reducible rfl) | (simp; done) | rfl))) | (with_reducible refine BxP.alloc ?_ _) | (with_reducible refine CnP.alloc ?_ _) | (with_reducible refine Bs.alloc ?_ _) | (with_reducible refine Bs.pick ?_ hM3 (by omega) hG3) | (with_reducible refine Bs.pick ?_ hM2 (by omega) hG2) | (with_reducible refine BxP.pick ?_ hG3) | (with_reducible refine BxP.pick ?_ hG2) | (with_reducible refine CnP.pick ?_ hG3) | (with_reducible refine CnP.pick ?_ hG2))); done)); intro hbp; have hbz := hbp.1; obtain ⟨⟨y0, y1, y2⟩, y3, y4, y5⟩ := hbz.cells; have u0 := (fun o => (hbz.alloc o).cells.1.1); have u1 := (fun o => (hbz.alloc o).cells.1.2.1); have u2 := (fun o => (hbz.alloc o).cells.1.2.2); have u3 := (fun o => (hbz.alloc o).cells.2.1); have u4 := (fun o => (hbz.alloc o).cells.2.2.1); have u5 := (fun o => (hbz.alloc o).cells.2.2.2))
            | (refine withP (P := BxP (w.heap.size + 1) w3 w2.heap.size) ?_ ?_; (focus ((repeat (first | exact HS0.out | exact HSa.out | (with_reducible refine BxP.drew ?_) | (with_reducible refine CnP.drew ?_) | (with_reducible refine Bs.drew ?_) | (with_reducible refine BxP.new (a := a) (n := n) (cap := cap) (F := F) ?_ ?hx; (case hx => (first | (with_reducible rfl) | (simp; done) | rfl))) | (with_reducible refine CnP.new (a := a) (n := n) (cap := cap) (F := F) ?_ ?hx; (case hx => (first | (with_reducible rfl) | (simp; done) | rfl))) | (with_reducible refine BxP.alloc ?_ _) | (with_reducible refine CnP.alloc ?_ _) | (with_reducible refine Bs.alloc ?_ _) | (with_reducible refine Bs.pick ?_ hM3 (by omega) hG3) | (with_reducible refine Bs.pick ?_ hM2 (by omega) hG2) | (with_reducible refine BxP.pick ?_ hG3) | (with_reducible refine BxP.pick ?_ hG2) | (with_reducible refine CnP.pick ?_ hG3) | (with_reducible refine CnP.pick ?_ hG2))); done)); intro hbp; have hbz := hbp.1; obtain ⟨⟨y0, y1, y2⟩, y3, y4, y5⟩ := hbz.cells; have u0 := (fun o => (hbz.alloc o).cells.1.1); have u1 := (fun o => (hbz.alloc o).cells.1.2.1); have u2 := (fun o => (hbz.alloc o).cells.1.2.2); have u3 := (fun o => (hbz.alloc o).cells.2.1); have u4 := (fun o => (hbz.alloc o).cells.2.2.1); have u5 := (fun o => (hbz.alloc o).cells.2.2.2))
            | (refine withP (P := BxP (w.heap.size + 1) w3 (w2.heap.size + 1)) ?_ ?_; (focus ((repeat (first | exact HS0.out | exact HSa.out | (with_reducible refine BxP.drew ?_) | (with_reducible refine CnP.drew ?_) | (with_reducible refine Bs.drew ?_) | (with_reducible refine BxP.new (a := a) (n := n) (cap := cap) (F := F) ?_ ?hx; (case hx => (first | (with_reducible rfl) | (simp; done) | rfl))) | (with_reducible refine CnP.new (a := a) (n := n) (cap := cap) (F := F) ?_ ?hx; (case hx => (first | (with_reducible rfl) | (simp; done) | rfl))) | (with_reducible refine BxP.alloc ?_ _) | (with_reducible refine CnP.alloc ?_ _) | (with_reducible refine Bs.alloc ?_ _) | (with_reducible refine Bs.pick ?_ hM3 (by omega) hG3) | (with_reducible refine Bs.pick ?_ hM2 (by omega) hG2) | (with_reducible refine BxP.pick ?_ hG3) | (with_reducible refine BxP.pick ?_ hG2) | (with_reducible refine CnP.pick ?_ hG3) | (with_reducible refine CnP.pick ?_ hG2))); done)); intro hbp; have hbz := hbp.1; obtain ⟨⟨y0, y1, y2⟩, y3, y4, y5⟩ := hbz.cells; have u0 := (fun o => (hbz.alloc o).cells.1.1); have u1 := (fun o => (hbz.alloc o).cells.1.2.1); have u2 := (fun o => (hbz.alloc o).cells.1.2.2); have u3 := (fun o => (hbz.alloc o).cells.2.1); have u4 := (fun o => (hbz.alloc o).cells.2.2.1); have u5 := (fun o => (hbz.alloc o).cells.2.2.2))
            | skip))) | fail
    all_goals
      go_wp2
      go_meet
      first
        | (refine ⟨_, _, (r2 == 1), _, rfl, bs_fin ?_ ?_ ?_⟩ <;> (repeat (first | exact HS0.out | exact HSa.out | (with_reducible refine BxP.drew ?_) | (with_reducible refine CnP.drew ?_) | (with_reducible refine Bs.drew ?_) | (with_reducible refine BxP.new (a := a) (n := n) (cap := cap) (F := F) ?_ ?hx; (case hx => (first | (with_reducible rfl) | (simp; done) | rfl))) | (with_reducible refine CnP.new (a := a) (n := n) (cap := cap) (F := F) ?_ ?hx; (case hx => (first | (with_reducible rfl) | (simp; done) | rfl))) | (with_reducible refine BxP.alloc ?_ _) | (with_reducible refine CnP.alloc ?_ _) | (with_reducible refine Bs.alloc ?_ _) | (with_reducible refine Bs.pick ?_ hM3 (by omega) hG3) | (with_reducible refine Bs.pick ?_ hM2 (by omega) hG2) | (with_reducible refine BxP.pick ?_ hG3) | (with_reducible refine BxP.pick ?_ hG2) | (with_reducible refine CnP.pick ?_ hG3) | (with_reducible refine CnP.pick ?_ hG2))))
        | (refine ⟨_, _, (r2 == 1), _, rfl, bs_fin2 ?_ ?_ ?hx⟩; (case hx => first | (with_reducible rfl) | (simp; done) | rfl); all_goals (repeat (first | exact HS0.out | exact HSa.out | (with_reducible refine BxP.drew ?_) | (with_reducible refine CnP.drew ?_) | (with_reducible refine Bs.drew ?_) | (with_reducible refine BxP.new (a := a) (n := n) (cap := cap) (F := F) ?_ ?hx; (case hx => (first | (with_reducible rfl) | (simp; done) | rfl))) | (with_reducible refine CnP.new (a := a) (n := n) (cap := cap) (F := F) ?_ ?hx; (case hx => (first | (with_reducible rfl) | (simp; done) | rfl))) | (with_reducible refine BxP.alloc ?_ _) | (with_reducible refine CnP.alloc ?_ _) | (with_reducible refine Bs.alloc ?_ _) | (with_reducible refine Bs.pick ?_ hM3 (by omega) hG3) | (with_reducible refine Bs.pick ?_ hM2 (by omega) hG2) | (with_reducible refine BxP.pick ?_ hG3) | (with_reducible refine BxP.pick ?_ hG2) | (with_reducible refine CnP.pick ?_ hG3) | (with_reducible refine CnP.pick ?_ hG2))))
        | (refine ⟨_, _, (r2 == 1), _, rfl, bs_fin3 ?_ ?hx ?hc⟩; (case hx => first | (with_reducible rfl) | (simp; done) | rfl); (case hc => first | (with_reducible rfl) | (simp; done) | rfl); all_goals (repeat (first | exact HS0.out | exact HSa.out | (with_reducible refine BxP.drew ?_) | (with_reducible refine CnP.drew ?_) | (with_reducible refine Bs.drew ?_) | (with_reducible refine BxP.new (a := a) (n := n) (cap := cap) (F := F) ?_ ?hx; (case hx => (first | (with_reducible rfl) | (simp; done) | rfl))) | (with_reducible refine CnP.new (a := a) (n := n) (cap := cap) (F := F) ?_ ?hx; (case hx => (first | (with_reducible rfl) | (simp; done) | rfl))) | (with_reducible refine BxP.alloc ?_ _) | (with_reducible refine CnP.alloc ?_ _) | (with_reducible refine Bs.alloc ?_ _) | (with_reducible refine Bs.pick ?_ hM3 (by omega) hG3) | (with_reducible refine Bs.pick ?_ hM2 (by omega) hG2) | (with_reducible refine BxP.pick ?_ hG3) | (with_reducible refine BxP.pick ?_ hG2) | (with_reducible refine CnP.pick ?_ hG3) | (with_reducible refine CnP.pick ?_ hG2))))
  case rest =>
    obtain ⟨x, c, ex, bd, rfl, A1, hA1, hMd⟩ := hcut
    have HMD := Lib.hid hMd
    clear hMd HP2 HP3 HS0 HSa HM1 HROW hp1
    go_wp2_with fail
    refine (pick_any 4 (by omega) (by omega) wc (w.heap.size + 1) a n cap F A1 HMD.out.mkr HF.out h60 (by omega)).mono ?_
    rintro e w4 ⟨r4, rfl, h40, h44, hM4, hG4⟩
    have HMD4 := Lib.hid (HMD.out.pick hM4 hG4)
    obtain ⟨q, hq⟩ : ∃ q : Nat, r4 = (q : Int) := ⟨r4.toNat, by omega⟩
    subst hq
    have hq4 : q ≤ 3 := by omega
    clear hM4 hG4 HMD h40 h44
    go_wp2
    go_loopw [8] (fun i wr => LpM w (w.heap.size + 1) a n cap F x c k ex bd i wr) (fun i _ => (RowKit.intOf i).toNat)
    case atStart => exact ⟨q + 1, ⟨none, 0, 0, fun _ => rZ⟩, A1 + 1, (by first | rfl | (congr 1; omega)), by show q + 1 + 0 ≤ 4; omega, by show 1 ≤ q + 1 + 0; omega, by show A1 + 1 ≤ 4 + 60 * 0; omega, HMD4.out⟩
    case round =>
      obtain ⟨j, l, A2, rfl, hj4, hj1, hA2, hMd⟩ := hrel
      have HM := Lib.hid hMd
      clear hMd HMD4
      by_cases hlt : 0 < j
      · have d2 : wr.cell? ⟨x, 2, none⟩ = some (.slice l.a l.n l.cap) := (cell_of_row wr x 2 _ _ _ HM.out.box).trans rfl
        have HMD := Lib.hid (HM.out.below (Below.refl _ _).drew)
        have HRL := Lib.hid (mrule_any k b wr.drew (w.heap.size + 1) a n cap F A2 hk1 hk3 HMD.out.mkr HF.out h60 (by omega))
        go_wp2
        go_region_law
          (first
            | (go_simp; go_at_call 28; refine HRL.out.mono ?_; clear HRL; rintro e w5 hMr; obtain ⟨r, A3, rfl, hA3, hMd5, hRl⟩ := HMD.out.rule hMr; have HM5 := Lib.hid hMd5; have HR5 := Lib.hid hRl; have d5 : w5.cell? ⟨x, 2, none⟩ = some (.slice l.a l.n l.cap) := (cell_of_row w5 x 2 _ _ _ HM5.out.box).trans rfl; have d5' : ∀ o, (w5.alloc o).cell? ⟨x, 2, none⟩ = some (.slice l.a l.n l.cap) := (fun o => (cell_of_row _ x 2 _ _ _ (HM5.out.below (alloc_below w5 o)).box).trans rfl); clear hMr hMd5 hRl)
            | (refine step_append22 (by rfl) (.tmp 41) (.tmp 46) 36 (by rfl) Tryd.underlying36 (max x c + 1) l (by rfl) (HM5.out.below (alloc_below w5 _)).rws (by have := HM5.out.lt; simp; omega) (by omega) w5.heap.size 1 46 r (by rfl) (heap_alloc_new w5 _) ?_; intro v6 w6 hApp; obtain ⟨⟨d6, f6⟩, a', c', rfl, hMd6⟩ := (HM5.out.below (alloc_below w5 _)).app (HR5.out.below (alloc_below w5 _)) hApp; have HM6 := Lib.hid hMd6; clear hApp hMd6))
        all_goals
          go_wp2
          go_roundw
          case rel => exact ⟨j - 1, ⟨a', l.n + 1, c', putR l.r l.n r⟩, A3, by rw [show ((j - 1 : Nat) : Int) = (j : Int) - 1 by omega], by show j - 1 + (l.n + 1) ≤ 4; omega, by show 1 ≤ j - 1 + (l.n + 1); omega, by show A3 ≤ 4 + 60 * (l.n + 1); omega, HM6.out⟩
          case measure => simp [RowKit.intOf]; omega
      · obtain rfl : j = 0 := by omega
        obtain ⟨x0, x1, x2⟩ := box3 HM.out.box
        obtain ⟨o0, o1, o2⟩ := box3 HM.out.out
        have g0 := frozen_of_row _ _ 0 _ _ HM.out.out
        have g1 := frozen_of_row _ _ 1 _ _ HM.out.out
        have g2 := frozen_of_row _ _ 2 _ _ HM.out.out
        have HD := Lib.hid (HM.out.done hk1 hk3 (by omega) (by omega))
        go_wp2
        exact bodyPost_ret (v := specV ⟨csM c k ex, bd, l⟩) (ret3 Tryd.results10 rfl HD.out.2) rfl HD.out.1
end Go.Proofs.YtnfchlkdppblfaaDoor
