/- What a function that returns a pattern, or an error, is to do; the landed code's folded and class. -/
import Derived.Test.YtnloepanbjgbaaaGreatDoorQd
import Derived.Test.YtnloepanbjgbaaaGreatDoorMe
namespace Go.Proofs.YtnloepanbjgbaaaGreatDoor
open Go.RowKit
/-- The option fold. -/
def foldB (b : Bool) (f : Nat → Int) : Nat → Int := if b = true then byK (foldK f) else f
theorem wf_foldB (b : Bool) {f : Nat → Int} (h : Wf f) : Wf (foldB b f) := by unfold foldB; split; exact wf_byK _; exact h
set_option maxRecDepth 100000 in
set_option maxHeartbeats 1000000 in
theorem folded_any (f : Nat → Int) (w : World) (p : Nat) (C : Cx) (i deep cop : Nat) (h : Rd w p C i deep cop) : Calls Tryz.prog 113 #[rp p, SV f] w fun e w' => e = .returned (SV (foldB C.fold f)) ∧ Below w.heap.size w w' := by
  obtain ⟨c0, c1, c2, c3, c4, c5⟩ := h.cells
  have hpl := h.lt
  clear h
  have hb0 : Below w.heap.size w ((w.alloc (.cells (row4 f) 28)).alloc (.cells (row4 fun _ => 0) 28)) := (alloc_below _ _).alloc (by simp) _
  have e1 : ((w.alloc (.cells (row4 f) 28)).alloc (.cells (row4 fun _ => 0) 28)).heap[w.heap.size + 1]? = some (.cells (row4 fun _ => 0) 28 (0, 0)) := by
    have := heap_alloc_new (w.alloc (.cells (row4 f) 28)) (.cells (row4 fun _ => 0) 28); simpa using this
  have E1 := Lib.hid e1
  have HB0 := Lib.hid hb0
  clear e1 hb0
  cases hF : C.fold
  · have HF := Lib.hid hF
    rw [hF] at c2
    clear hF
    have HX := Lib.hid (show foldB false f = f from rfl)
    rw [HX.out]
    have HS := Lib.hid (stored4 f E1.out)
    go_enter Tryz.func113, Tryz.ntmps113
    go_wp2
    refine bodyPost_ret (v := SV f) (ret4 Tryz.results113 rfl ?_) rfl ⟨rfl, ?_⟩
    · have := heap_alloc_new (w.alloc (.cells (row4 f) 28)) (.cells (row4 f) 28); simpa using this
    · exact (alloc_below _ _).alloc (by simp) _
  · rw [hF] at c2
    clear hF
    obtain ⟨F, hF⟩ : ∃ F, F = byK (foldK f) := ⟨_, rfl⟩
    have HX := Lib.hid (show foldB true f = F from hF.symm)
    have HFO := Lib.hid hF
    rw [HX.out]
    clear hF
    go_enter Tryz.func113, Tryz.ntmps113
    go_wp2_with fail
    refine (fold_any f _).mono ?_
    rintro e w1 ⟨rfl, hb1⟩
    rw [← HFO.out]
    have HB1 := Lib.hid (HB0.out.trans (hb1.mono (by simp; omega)))
    have HQ1 := Lib.hid ((hb1.block _ (Array.getElem?_eq_some_iff.1 E1.out).1).trans E1.out)
    obtain ⟨⟨d0, d1, d2, d3⟩, f0, f1, f2, f3⟩ := open4 (f := fun _ => 0) HQ1.out
    clear hb1
    go_wp2
    exact bodyPost_ret (v := SV F) (ret4 Tryz.results113 rfl (stored4 F HQ1.out)) rfl ⟨rfl, put4_below F HB1.out (by omega)⟩
theorem at8_rd {w : World} {p : Nat} {C : Cx} {i deep cop : Nat} (h : Rd w p C i deep cop) {g o : Nat} {t : Tr} (h8 : At8 w g o t) : g ≠ p := by
  rintro rfl
  obtain ⟨a0, a1, _⟩ := h8
  have hb := h.box
  unfold World.cell? at a0 a1
  rw [hb] at a0 a1
  match o with
  | 0 => simp at a0
  | 1 => simp at a0
  | 2 => simp at a0
  | 3 => simp at a1
  | 4 => simp at a1
  | 5 => simp at a1
  | o + 6 => simp at a0
theorem Lives.rd {w w' : World} {p : Nat} {C : Cx} {i deep cop : Nat} (hM : Rd w p C i deep cop) (hG : w.grownBy w' (some p)) {B : Nat} (hB : B ≤ w.heap.size) : ∀ {t : Tr}, Lives w B t → Lives w' B t
  | .node _ _ _ _ _ _ _ kid, ⟨hs, h1, h2, hc, hk⟩ => ⟨hs, h1, h2, fun hp => by
      obtain ⟨g, off, ha, hg, hc⟩ := hc hp
      refine ⟨g, off, ha, hg, fun i hi => ?_⟩
      have hne := at8_rd hM (hc i hi)
      have hblk : w'.heap[g]? = w.heap[g]? := hG.block g (by omega) (fun e => hne (by injection e))
      have key : ∀ o : Nat, w'.cell? ⟨g, o, none⟩ = w.cell? ⟨g, o, none⟩ := fun o => World.cell?_of_block hblk
      obtain ⟨h0, h1, h2, h3, h4, h5, h6, h7⟩ := hc i hi
      exact ⟨(key _).trans h0, (key _).trans h1, (key _).trans h2, (key _).trans h3, (key _).trans h4, (key _).trans h5, (key _).trans h6, (key _).trans h7⟩,
      fun i hi => Lives.rd hM hG hB (t := kid i) (hk i hi)⟩
  | .nul, h => False.elim h
/-- A pattern lives on, whatever is done to the reader. -/
theorem Lives.on {w w' : World} {p : Nat} {C : Cx} {i deep cop : Nat} {t : Tr} (h : Lives w w.heap.size t) (hM : Rd w p C i deep cop) (hG : w.grownBy w' (some p)) : Lives w' w'.heap.size t := (Lives.rd hM hG (Nat.le_refl _) h).mono hG.size
/-- A pattern's rows lie in blocks from A on. -/
def Up (A : Nat) : Tr → Prop
  | .node _ _ _ _ a n _ kid => (0 < n → ∀ b : Addr, a = some b → A ≤ b.block) ∧ ∀ i, i < n → Up A (kid i)
  | .nul => True
theorem Up.mono {A A' : Nat} (h : A' ≤ A) : ∀ {t : Tr}, Up A t → Up A' t
  | .node _ _ _ _ _ _ _ kid, ⟨h1, h2⟩ => ⟨fun hn b hb => Nat.le_trans h (h1 hn b hb), fun i hi => Up.mono h (t := kid i) (h2 i hi)⟩
  | .nul, _ => trivial
/-- What is younger than a box lives on when the box is written. -/
theorem Lives.up {w w' : World} {A B : Nat} (hk : ∀ g, A ≤ g → g < B → w'.heap[g]? = w.heap[g]?) : ∀ {t : Tr}, Up A t → Lives w B t → Lives w' B t
  | .node _ _ _ _ _ _ _ kid, ⟨u1, u2⟩, ⟨hs, h1, h2, hc, hkid⟩ => ⟨hs, h1, h2, fun hp => by
      obtain ⟨g, off, ha, hg, hc⟩ := hc hp
      refine ⟨g, off, ha, hg, fun i hi => ?_⟩
      have key : ∀ o : Nat, w'.cell? ⟨g, o, none⟩ = w.cell? ⟨g, o, none⟩ := fun o => World.cell?_of_block (hk g (u1 hp _ ha) hg)
      obtain ⟨h0, h1, h2, h3, h4, h5, h6, h7⟩ := hc i hi
      exact ⟨(key _).trans h0, (key _).trans h1, (key _).trans h2, (key _).trans h3, (key _).trans h4, (key _).trans h5, (key _).trans h6, (key _).trans h7⟩,
      fun i hi => Lives.up hk (t := kid i) (u2 i hi) (hkid i hi)⟩
  | .nul, _, h => False.elim h
theorem up_lf (A : Nat) (k : Int) (s : Nat → Int) : Up A (lfT k s) := ⟨fun h => absurd h (by omega), fun i h => absurd h (by omega)⟩
/-- What a function that returns a pattern, or an error, is to do. -/
def PT (w : World) (p : Nat) (C : Cx) (deep : Nat) (r : Rs (Tr × Nat)) (e : Ending) (w' : World) : Prop :=
  w.grownBy w' (some p) ∧ match r with
    | .ok T i => ∃ t : Tr, e = .returned (.tuple #[t.val, .nilIface]) ∧ sameT t T.1 = true ∧ Lives w' w'.heap.size t ∧ Up w.heap.size t ∧ Rd w' p C i deep T.2
    | .er c i => (∃ (k : Int) (s : Nat → Int) (lo hi : Int) (a : Option Addr) (n cap : Nat), e = .returned (.tuple #[nodeV k s lo hi (.slice a n cap), errV c i])) ∧ i ≤ C.S.size ∧ ∃ j c', Rd w' p C j deep c'
def classP (N : Nat → Int) (n : Nat) (fold : Bool) (i : Nat) : Rs (Nat → Int) :=
  match itemsP N (n + 1) (fun _ => 0) (if N (i + 1) = 94 then i + 2 else i + 1) with
  | .er e k => .er e k
  | .ok s k => if eqS (if N (i + 1) = 94 then notS (foldB fold s) else foldB fold s) z0 = true then .er 22 i else .ok (if N (i + 1) = 94 then notS (foldB fold s) else foldB fold s) k
set_option maxRecDepth 100000 in
theorem ret8t {fn : Func} {p u : Tmp} (h : fn.results = #[.cell p 31, .tmp u]) {tmps : Array Value} {w : World} {g : Nat} {k : Int} {s : Nat → Int} {lo hi : Int} {x v : Value} (hp : tmps.getD p undef = .pointer (some ⟨g, 0, none⟩)) (hv : tmps.getD u undef = v) (hg : w.heap[g]? = some (.cells (row8 k s lo hi x) 31 (0, 0))) :
    (results fn tmps).run Tryz.prog w = .ok (.tuple #[nodeV k s lo hi x, v]) w := by
  rw [results_cell_tmp h, hp, hv]
  simp [asAddr, run_loadVar_row w g 31 31 (row8 k s lo hi x) (0, 0) _ hg Tryz.underlying31 rfl info27s, Result.andThen]
theorem put8_other (w : World) (q k : Nat) (a : Int) (s : Nat → Int) (lo hi : Int) (v : Value) (h : k ≠ q) : (put8 w q a s lo hi v).heap[k]? = w.heap[k]? := by
  have key : ∀ (w : World) (c : Nat) (u : Value), (w.setCell ⟨q, c, none⟩ u).heap[k]? = w.heap[k]? := fun w c u => Below.heap_setCell _ _ _ _ h
  unfold put8
  rw [key, key, key, key, key, key, key, key]
theorem lives_put8u {w : World} {q : Nat} {t : Tr} (hU : Up (q + 1) t) (hL : Lives w w.heap.size t) (k : Int) (s : Nat → Int) (lo hi : Int) (v : Value) : Lives (put8 w q k s lo hi v) (put8 w q k s lo hi v).heap.size t := by
  rw [put8_size]
  exact Lives.up (fun g hg _ => put8_other w q g k s lo hi v (by omega)) hU hL
/-- The eight stores into the result's box, which is younger than the reader. -/
theorem fin8r {w w1 : World} {q p : Nat} {C : Cx} {i deep cop : Nat} (hM : Rd w1 p C i deep cop) (hG : w.grownBy w1 (some p)) (hp : p < w.heap.size) (hq : w.heap.size ≤ q) {k0 lo0 hi0 : Int} {z : Nat → Int} {v0 : Value} (hr : w1.heap[q]? = some (.cells (row8 k0 z lo0 hi0 v0) 31 (0, 0))) (k : Int) (s : Nat → Int) (lo hi : Int) (v : Value) :
    (put8 w1 q k s lo hi v).heap[q]? = some (.cells (row8 k s lo hi v) 31 (0, 0)) ∧ Rd (put8 w1 q k s lo hi v) p C i deep cop ∧ w.grownBy (put8 w1 q k s lo hi v) (some p) :=
  ⟨stored8 k s lo hi v hr, ⟨(put8_other w1 q p k s lo hi v (by omega)).trans hM.box, hM.sz, hM.le, hM.dp, hM.cp⟩, grown_then hG (put8_below w1 hq k s lo hi v)⟩
/-- What class is to do. -/
def PC (w : World) (p : Nat) (C : Cx) (deep cop : Nat) (r : Rs (Nat → Int)) (e : Ending) (w' : World) : Prop :=
  w.grownBy w' (some p) ∧ match r with
    | .ok f i => e = .returned (.tuple #[nodeV 2 f 0 0 (.slice none 0 0), .nilIface]) ∧ Wf f ∧ Rd w' p C i deep cop
    | .er c i => e = .returned (.tuple #[nodeV 0 z0 0 0 (.slice none 0 0), errV c i]) ∧ i ≤ C.S.size ∧ ∃ j, Rd w' p C j deep cop
/-- The last part of class: the set is there, in a box of its own. -/
theorem class_end {w w1 : World} {p q : Nat} {C : Cx} {i k deep cop : Nat} {F : Nat → Int} {R : Rs (Nat → Int)} (hM : Rd w1 p C k deep cop) (hG : w.grownBy w1 (some p)) (hp : p < w.heap.size) (hq : w.heap.size ≤ q) (hr : w1.heap[q]? = some (.cells (row8 0 z0 0 0 (.slice none 0 0)) 31 (0, 0))) (hwf : Wf F) (hi : i ≤ C.S.size) (hR : R = if eqS F z0 = true then .er 22 i else .ok F k) :
    (eqS F z0 = false → PC w p C deep cop R (.returned (.tuple #[nodeV 2 F 0 0 (.slice none 0 0), .nilIface])) (put8 w1 q 2 F 0 0 (.slice none 0 0)) ∧ (put8 w1 q 2 F 0 0 (.slice none 0 0)).heap[q]? = some (.cells (row8 2 F 0 0 (.slice none 0 0)) 31 (0, 0))) ∧
      (eqS F z0 = true → PC w p C deep cop R (.returned (.tuple #[nodeV 0 z0 0 0 (.slice none 0 0), errV 22 i])) (put8 w1 q 0 z0 0 0 (.slice none 0 0)) ∧ (put8 w1 q 0 z0 0 0 (.slice none 0 0)).heap[q]? = some (.cells (row8 0 z0 0 0 (.slice none 0 0)) 31 (0, 0))) := by
  constructor
  · intro h
    obtain ⟨h1, h2, h3⟩ := fin8r hM hG hp hq hr 2 F 0 0 (.slice none 0 0)
    rw [hR, if_neg (by rw [h]; simp)]
    exact ⟨⟨h3, rfl, hwf, h2⟩, h1⟩
  · intro h
    obtain ⟨h1, h2, h3⟩ := fin8r hM hG hp hq hr 0 z0 0 0 (.slice none 0 0)
    rw [hR, if_pos h]
    exact ⟨⟨h3, rfl, hi, k, h2⟩, h1⟩
end Go.Proofs.YtnloepanbjgbaaaGreatDoor
