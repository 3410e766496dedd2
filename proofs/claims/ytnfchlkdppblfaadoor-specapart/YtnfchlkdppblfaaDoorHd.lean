/- The law's rule of layer 6: a rule by numbers. -/
import Derived.Test.YtnfchlkdppblfaaDoorHc
import Derived.Test.YtnfchlkdppblfaaDoorCj
import Derived.Test.YtnfchlkdppblfaaDoorCn
import Derived.Deep.CutBlock
import Derived.Maps.AppendAt
namespace Go.Proofs.YtnfchlkdppblfaaDoor
open Go.RowKit Go
set_option maxRecDepth 100000 in
theorem info3n : (Tryd.prog.info? 3).map (fun i => (i.zero, i.size, i.bytes)) = some (some (.int .i64 0), 1, 8) := by kernel_rfl
/-- What rule gives back. -/
def MrI (w : World) (p : Nat) (a : Option Addr) (n cap : Nat) (F : Nat → Int) (A k : Nat) (e : Ending) (w' : World) : Prop :=
  ∃ r : Rl, e = .returned (ruleV r) ∧ RlIn w' w'.heap.size r ∧ ruleB r k = true ∧ (cnt r.rx ≤ 100 ∧ cnt r.tr ≤ 100) ∧ (0 < r.cn → ∃ g off, r.ca = some ⟨g, off, none⟩ ∧ w.heap.size ≤ g) ∧ ∃ A', A' ≤ A + 60 ∧ Mk w' p a n cap F A' ∧ w.grownBy w' (some p)
/-- A rule of these conditions that does this. -/
abbrev ruC (ca : Option Addr) (cn cc : Nat) (cs : Nat → Int) (al : Bool) (ac tg : Int) : Rl := ⟨ca, cn, cc, cs, al, false, zT, zT, false, ac, tg⟩
theorem alloc_keep {w : World} {o o' : Obj} {n : Nat} (h : w.heap[n]? = some o') : (w.alloc o).heap[n]? = some o' := (Below.heap_alloc _ _ _ (lt_of_heap h)).trans h
theorem ru_first {w w1 : World} {p : Nat} {a : Option Addr} {n cap : Nat} {F : Nat → Int} {A : Nat} (ac : Int) (hpw : p < w.heap.size) (hM : Mk w1 p a n cap F A) (hG : (w.alloc (.cells (row22 rZ) 46)).grownBy w1 (some p)) :
    w.heap.size < w1.heap.size ∧ RuI w w1.heap.size p a n cap F (ruC none 0 0 (fun _ => 0) false ac 0) A (w1.alloc (.cells (row22 (ruC none 0 0 (fun _ => 0) false ac 0)) 46)) := by
  have hsz : w.heap.size < w1.heap.size := by have := hG.size; simp at this; omega
  refine ⟨hsz, heap_alloc_new _ _, alloc_keep ((hG.block _ (by simp) (by intro e; have := Option.some.inj e; omega)).trans (heap_alloc_new _ _)), hM.below (alloc_below _ _), ?_, World.ownsRow_nil _ _ _ _, Or.inl rfl, Or.inl rfl⟩
  exact grownBy_trans (grownBy_trans (grown_of_below (alloc_below w _) (some p)) hG) (grown_of_below (alloc_below w1 _) (some p))
theorem RuI.cells {w : World} {x p : Nat} {a : Option Addr} {n cap : Nat} {F : Nat → Int} {r : Rl} {A : Nat} {w' : World} (h : RuI w x p a n cap F r A w') (c : Nat) (v : Value) (hv : (row22 r)[c]? = some v) : w'.cell? ⟨x, c, none⟩ = some v ∧ w'.frozen? ⟨x, c, none⟩ = false :=
  ⟨(cell_of_row w' x c _ _ _ h.box).trans hv, frozen_of_row _ _ c _ _ h.box⟩
theorem own_ne_lt {w : World} {base e size n : Nat} {v : Value} {xs : List Value} (h : w.ownsRow base e size v n xs) {k : Nat} (hk : k < base) : some k ≠ v.ownBlock := fun e => by have := (h.lt k e.symm).1; omega
/-- A condition is put behind the others. -/
theorem RuI.app {w : World} {x p : Nat} {a : Option Addr} {n cap : Nat} {F : Nat → Int} {ca a' : Option Addr} {cn cc c' j : Nat} {cs : Nat → Int} {ac tg : Int} {A : Nat} {w3 w4 : World} {o : Obj} (h : RuI w x p a n cap F (ruC ca cn cc cs false ac tg) A w3) (hpx : p < w.heap.size) (hx : w.heap.size < x)
    (hown : w4.ownsRow (x + 1) 3 1 (.slice a' (cn + 1 : Nat) c') (cn + 1) (numsV cs cn ++ [.int .i64 (j : Int)])) (hG : (w3.alloc o).grownBy w4 (Value.slice ca cn cc).ownBlock) :
    RuI w x p a n cap F (ruC a' (cn + 1) c' (fun i => if i = cn then (j : Int) else cs i) false ac tg) A (w4.setCell ⟨x, 0, none⟩ (.slice a' (cn + 1 : Nat) c')) := by
  have hb : ∀ k ob, k < x + 1 → w3.heap[k]? = some ob → w4.heap[k]? = some ob := fun k ob hk hob => by
    have h1 : (w3.alloc o).heap[k]? = some ob := alloc_keep hob
    exact (hG.block k (lt_of_heap h1) (fun e => own_ne_lt h.own hk e)).trans h1
  have hbox := hb x _ (by omega) h.box
  have hs := setCell_eq_setRow w4 x 0 _ _ _ (.slice a' (cn + 1 : Nat) c') hbox
  rw [hs]
  refine ⟨setRow_heap w4 x _ _ _ _ hbox, (setRow_other _ _ _ _ (by omega)).trans (hb _ _ (by omega) h.out), ?_, ?_, ?_, Or.inl rfl, Or.inl rfl⟩
  · refine mk_setRow ⟨hb p _ (by omega) h.mkr.box, fun hn => ?_⟩ (by omega)
    obtain ⟨g, off, ha, hg, hc⟩ := h.mkr.row hn
    refine ⟨g, off, ha, hg, fun i hi => ?_⟩
    have hgl := lt_of_cell (hc i hi)
    have h1 : w4.heap[g]? = w3.heap[g]? := by
      obtain ⟨ob, hob⟩ : ∃ ob, w3.heap[g]? = some ob := ⟨_, Array.getElem?_eq_getElem hgl⟩
      rw [hob]; exact hb g ob (by omega) hob
    exact (World.cell?_of_block (a := ⟨g, off + i, none⟩) h1).trans (hc i hi)
  · refine setRow_grown ?_ (by omega)
    have h1 := h.grown
    refine ⟨hG.os.trans h1.os, hG.tape.trans h1.tape, hG.output.trans h1.output, by have := hG.size; have := h1.size; simp at *; omega, fun k hk hne => ?_⟩
    obtain ⟨ob, hob⟩ : ∃ ob, w3.heap[k]? = some ob := ⟨_, Array.getElem?_eq_getElem (Nat.lt_of_lt_of_le hk h1.size)⟩
    rw [hb k ob (by omega) hob, ← hob]
    exact h1.block k hk hne
  · have hnv : numsV (fun i => if i = cn then (j : Int) else cs i) (cn + 1) = numsV cs cn ++ [.int .i64 (j : Int)] := by
      rw [numsV_succ]
      have : numsV (fun i => if i = cn then (j : Int) else cs i) cn = numsV cs cn := by
        unfold numsV
        refine List.map_congr_left fun i hi => ?_
        show Value.int .i64 (if i = cn then (j : Int) else cs i) = _
        rw [if_neg (by have := List.mem_range.1 hi; omega)]
      rw [this, if_pos rfl]
    rw [hnv]
    refine hown.kept (setRow_grown_x _ _ _) ?_
    cases hv : (Value.slice a' (cn + 1 : Nat) c').ownBlock with
    | none => exact Or.inl rfl
    | some k => exact Or.inr (by intro e; have := (hown.lt k hv).1; have := Option.some.inj e; omega)
theorem ris_app {cs : Nat → Int} {k : Int} {cn j : Nat} (h : risB cs k cn = true) (hp : prvI cs cn ≤ j) (hj : (j : Int) < k) : risB (fun i => if i = cn then (j : Int) else cs i) k (cn + 1) = true ∧ prvI (fun i => if i = cn then (j : Int) else cs i) (cn + 1) ≤ (j + 1 : Nat) := by
  have hpr : ∀ i, i ≤ cn → prvI (fun i => if i = cn then (j : Int) else cs i) i = prvI cs i := fun i hi => by
    cases i with
    | zero => rfl
    | succ m => show (if m = cn then (j : Int) else cs m) + 1 = cs m + 1; rw [if_neg (by omega)]
  constructor
  · unfold risB at h ⊢
    rw [allTo_iff] at h ⊢
    intro i hi
    by_cases hic : i = cn
    · subst hic
      rw [hpr i (Nat.le_refl _)]
      simp only [if_true, Bool.and_eq_true, decide_eq_true_eq]
      exact ⟨hp, hj⟩
    · have := h i (by omega)
      rw [hpr i (by omega)]
      simpa [hic] using this
  · show (if cn = cn then (j : Int) else cs cn) + 1 ≤ _
    rw [if_pos rfl]; omega
/-- The loop over the conditions. -/
def LpR (w : World) (x p : Nat) (a : Option Addr) (n cap : Nat) (F : Nat → Int) (A k : Nat) (ac tg : Int) (i : Value) (wr : World) : Prop :=
  ∃ (j : Nat) (ca : Option Addr) (cn cc : Nat) (cs : Nat → Int) (A' : Nat), j ≤ k ∧ i = .int .i64 j ∧ RuI w x p a n cap F (ruC ca cn cc cs false ac tg) A' wr ∧ A' ≤ A + 3 + j ∧ cn ≤ j ∧ risB cs k cn = true ∧ prvI cs cn ≤ j
set_option maxRecDepth 100000 in
theorem ret22 {fn : Func} {q : Tmp} (h : fn.results = #[.cell q 46]) {tmps : Array Value} {w : World} {g : Nat} {r : Rl} (hp : tmps.getD q undef = .pointer (some ⟨g, 0, none⟩)) (hg : w.heap[g]? = some (.cells (row22 r) 46 (0, 0))) :
    (results fn tmps).run Tryd.prog w = .ok (ruleV r) w :=
  results_cell_row h tmps w g 46 _ _ _ hp hg Tryd.underlying46 rfl info42
/-- The rule is copied into the box of the result. -/
theorem RuI.fin {w : World} {x p : Nat} {a : Option Addr} {n cap : Nat} {F : Nat → Int} {r : Rl} {A : Nat} {w1 : World} {cs : Array Value} (h : RuI w x p a n cap F r A w1) (hpx : p < w.heap.size) (hx : w.heap.size < x) (hc : cs = row22 r) (hbd : ∀ i, i < r.cn → 0 ≤ r.cs i ∧ r.cs i < 100) :
    (w1.setRow w.heap.size cs).heap[w.heap.size]? = some (.cells (row22 r) 46 (0, 0)) ∧ RlIn (w1.setRow w.heap.size cs) (w1.setRow w.heap.size cs).heap.size r ∧ (0 < r.cn → ∃ g off, r.ca = some ⟨g, off, none⟩ ∧ w.heap.size ≤ g) ∧ Mk (w1.setRow w.heap.size cs) p a n cap F A ∧ w.grownBy (w1.setRow w.heap.size cs) (some p) := by
  have hK : KeepF w1 (w1.setRow w.heap.size cs) := keepF_row h.out hc (Or.inl rfl) (Or.inl rfl)
  have hs : w1.heap.size ≤ (w1.setRow w.heap.size cs).heap.size := by rw [size_setRow]; exact Nat.le_refl _
  have hown : (w1.setRow w.heap.size cs).ownsRow (x + 1) 3 1 (.slice r.ca r.cn r.cc) r.cn (numsV r.cs r.cn) := by
    refine h.own.kept (setRow_grown_x _ _ _) ?_
    cases hv : (Value.slice r.ca r.cn r.cc).ownBlock with
    | none => exact Or.inl rfl
    | some k => exact Or.inr (by intro e; have := (h.own.lt k hv).1; have := Option.some.inj e; omega)
  refine ⟨by rw [← hc]; exact setRow_heap w1 _ _ cs _ _ h.out, ⟨?_, (h.px.keep hK hs).lives, (h.pt.keep hK hs).lives⟩, ?_, mk_setRow h.mkr hpx, setRow_grown h.grown (Nat.le_refl _)⟩
  · rcases hown.2 with ⟨hv, h0⟩ | ⟨g, cp, cur, hv, hg, hcur, h1, h2, _, hx2⟩
    · simp only [Value.slice.injEq] at hv
      obtain ⟨e1, e2, e3⟩ := hv
      exact ⟨by omega, by rw [e3]; exact Nat.zero_le _, fun hp => absurd hp (by omega), fun i hi => absurd hi (by omega)⟩
    · simp only [Value.slice.injEq] at hv
      obtain ⟨e1, _, e3⟩ := hv
      refine ⟨by omega, by omega, fun hp => ⟨g, 0, e1, lt_of_heap hcur, fun i hi => ?_⟩, fun i hi => by have := hbd i hi; omega⟩
      have := hown.cells (g := g) (by rw [e1]; rfl) i (.int .i64 (r.cs i)) (by unfold numsV; simp [hi])
      rw [Addr.add_lit] at this
      exact this
  · intro hp
    rcases h.own.2 with ⟨_, h0⟩ | ⟨g, cp, cur, hv, hg, _⟩
    · omega
    · simp only [Value.slice.injEq] at hv
      exact ⟨g, 0, hv.1, by omega⟩
/-- A struct that is stored into a part of a block: the new row by name. -/
theorem wpList_store_in {ops : Array Oper} {rest : List Oper} {o : Oper} {a : Act} {w : World} {Q : Exit → Act → World → Prop} (ty : TypeId) (p v : Operand) (ho : o.op = .store ty p v) (hgd : o.guard = none)
    (x c : Nat) (hp : a.eval p = .pointer (some ⟨x, c, none⟩)) (vs : Array Value) (hv : a.eval v = .agg vs) (cur : Array Value) (e : Nat) (hx : w.heap[x]? = some (.cells cur e (0, 0))) (hi : (Tryd.prog.info? ty).map (·.size) = some vs.size) (hl : c + vs.size ≤ cur.size) (h1 : ∀ u ∈ vs.toList, u.oneCell' = true)
    (new : Array Value) (hnew : (cur.toList.take c ++ vs.toList ++ cur.toList.drop (c + vs.size)).toArray = new)
    (h : ∀ W, W = w.setRow x new → wpList Tryd.prog ops Q rest (a.put o.dst undef) W) : wpList Tryd.prog ops Q (o :: rest) a w :=
  wpList_store_at ty p v ho hgd x c hp vs hv cur e hx hi hl h1 (by rw [hnew]; exact h _ rfl)
set_option maxRecDepth 100000 in
theorem one22 (r : Rl) : ∀ u ∈ (row22 r).toList, u.oneCell' = true := by simp [Value.oneCell']
abbrev row8t (t : Tr) : Array Value := #[.int .i64 t.k, .int .u64 (t.s 0), .int .u64 (t.s 1), .int .u64 (t.s 2), .int .u64 (t.s 3), .int .i64 t.lo, .int .i64 t.hi, .slice t.a t.n t.cap]
theorem one8 (t : Tr) : ∀ u ∈ (row8t t).toList, u.oneCell' = true := by simp [Value.oneCell']
theorem same_selfz : sameT zT zT = true := by simp [zT, sameT, likeB, eqS, allTo]
theorem cnt_zT : cnt zT = 1 := by simp [zT, cnt, sumTo]
theorem ris_bd {cs : Nat → Int} {k cn : Nat} {ca : Option Addr} {cc : Nat} {al : Bool} {ac tg : Int} (hk : k ≤ 3) (h : startsB (ruC ca cn cc cs al ac tg) k = true) : ∀ i, i < cn → 0 ≤ cs i ∧ cs i < 100 := by
  intro i hi
  unfold startsB at h
  dsimp only at h
  split at h
  · have := of_decide_eq_true h; omega
  · have := ris_le h i hi; omega
/-- All together. -/
theorem mr_all {w W2 : World} {x p : Nat} {a : Option Addr} {n cap : Nat} {F : Nat → Int} {r : Rl} {A A' k : Nat} {W1 : World} {cs : Array Value} (h : RuI w x p a n cap F r A' W1) (hpx : p < w.heap.size) (hx : w.heap.size < x) (hW : W2 = W1.setRow w.heap.size cs) (hc : cs = row22 r) (hbd : ∀ i, i < r.cn → 0 ≤ r.cs i ∧ r.cs i < 100)
    (hr : ruleB r k = true) (h1 : cnt r.rx ≤ 100) (h2 : cnt r.tr ≤ 100) (hA : A' ≤ A + 60) : W2.heap[w.heap.size]? = some (.cells (row22 r) 46 (0, 0)) ∧ MrI w p a n cap F A k (.returned (ruleV r)) W2 := by
  obtain ⟨f1, f2, f3, f4, f5⟩ := h.fin hpx hx hc hbd
  subst hW
  exact ⟨f1, r, rfl, f2, hr, ⟨h1, h2⟩, f3, A', hA, f4, f5⟩
set_option maxRecDepth 100000 in
set_option maxHeartbeats 16000000 in
theorem mrule_any (k : Nat) (b : Bool) (w : World) (p : Nat) (a : Option Addr) (n cap : Nat) (F : Nat → Int) (A : Nat) (hk1 : 1 ≤ k) (hk3 : k ≤ 3) (h : Mk w p a n cap F A) (hF : ∀ i, 0 ≤ F i ∧ F i < 256) (hn : n ≤ 60) (hA : A + 60 ≤ 700) :
    Calls Tryd.prog 28 #[.pointer (some ⟨p, 0, none⟩), .int .i64 k, .bool b] w (MrI w p a n cap F A k) := by
  have HF := Lib.hid hF
  have HM := Lib.hid h
  have hpw := h.lt
  clear h hF
  go_enter Tryd.func28, Tryd.ntmps28
  go_upto_if 15 with (first
    | (go_at_call 27; refine (pick_any 3 (by omega) (by omega) _ p a n cap F A (HM.out.below (alloc_below w _)) HF.out hn (by omega)).mono ?_; rintro e w1 ⟨rk, rfl, hr0, hr3, hM1, hG1⟩)
    | (refine wpList_store42n _ _ rfl rfl rfl _ rfl (by simp) rfl (ruC none 0 0 (fun _ => 0) false (1 + rk) 0) rfl ?_))
  obtain ⟨hxw, hR⟩ := ru_first (1 + rk) hpw hM1 hG1
  have HR := Lib.hid hR
  clear hM1 hG1 hR HM
  obtain ⟨x, hx⟩ : ∃ x, x = w1.heap.size := ⟨_, rfl⟩
  rw [← hx] at HR hxw ⊢
  obtain ⟨W, hW⟩ : ∃ W, W = w1.alloc (.cells (row22 (ruC none 0 0 (fun _ => 0) false (1 + rk) 0)) 46) := ⟨_, rfl⟩
  rw [← hW] at HR ⊢
  clear hW hx
  go_cut [] from 10 to 19 (fun wc => ∃ (ac tg : Int) (A' : Nat), RuI w x p a n cap F (ruC none 0 0 (fun _ => 0) false ac tg) A' wc ∧ A' ≤ A + 2 ∧ actB (ruC none 0 0 (fun _ => 0) false ac tg) k = true)
  case first =>
    by_cases hq : rk < 2
    · have hq2 : (1 + rk == 3) = false := by simp; omega
      go_wp2
      go_meet
      exact ⟨1 + rk, 0, A + 1, HR.out, by omega, by unfold actB ruC; dsimp only; rw [if_pos (by omega)]; rfl⟩
    · have hq2 : (1 + rk == 3) = true := by simp; omega
      have HP := Lib.hid (pick_any (k : Int) (by omega) (by omega) W p a n cap F (A + 1) HR.out.mkr HF.out hn (by omega))
      go_wp2_with fail
      refine HP.out.mono ?_
      rintro e w2 ⟨tg, rfl, ht0, htk, hM2, hG2⟩
      have HR2 := Lib.hid (HR.out.next hpw hxw hM2 hG2)
      obtain ⟨d21, f21⟩ := HR2.out.cells 21 _ rfl
      go_wp2
      go_meet
      exact ⟨1 + rk, tg, A + 2, HR2.out.cell hpw hxw 21 _ (ruC none 0 0 (fun _ => 0) false (1 + rk) tg) rfl ⟨rfl, rfl, rfl, rfl⟩ rfl rfl, by omega, by unfold actB ruC; dsimp only; rw [if_neg (by omega), if_pos (by omega)]; exact ixB_iff.2 (by omega)⟩
  case rest =>
    obtain ⟨ac, tg, A1, hR1, hA1, hac⟩ := hcut
    have HR := Lib.hid hR1
    have HAC := Lib.hid hac
    clear hR1 hac hr0 hr3
    go_upto_block 0 with (first
      | (go_at_call 27; refine (pick_any 4 (by omega) (by omega) wc p a n cap F A1 HR.out.mkr HF.out hn (by omega)).mono ?_; rintro e w2 ⟨r4, rfl, h40, h44, hM2, hG2⟩))
    have HR2 := Lib.hid (HR.out.next hpw hxw hM2 hG2)
    clear hM2 hG2 HR
    go_cut [] from 8 to 40 (fun wc => ∃ (ca : Option Addr) (cn cc : Nat) (cs : Nat → Int) (al : Bool) (A' : Nat), RuI w x p a n cap F (ruC ca cn cc cs al ac tg) A' wc ∧ A' ≤ A + 6 ∧ startsB (ruC ca cn cc cs al ac tg) k = true)
    case first =>
      by_cases q0 : r4 = 0
      · have q0' : (r4 == 0) = true := by simp [q0]
        obtain ⟨d1, f1⟩ := HR2.out.cells 1 _ rfl
        clear q0
        go_wp2
        go_meet
        exact ⟨none, 0, 0, fun _ => 0, true, A1 + 1, HR2.out.cell hpw hxw 1 _ (ruC none 0 0 (fun _ => 0) true ac tg) rfl ⟨rfl, rfl, rfl, rfl⟩ rfl rfl, by omega, rfl⟩
      · have q0' : (r4 == 0) = false := by simp [q0]
        by_cases q1 : r4 = 1
        · have q1' : (r4 == 1) = true := by simp [q1]
          obtain ⟨i0, hi, hz0, hz1, hz2⟩ := info_parts info3n
          clear q0 q1
          go_wp2
          go_loopw [8] (fun i wr => LpR w x p a n cap F A k ac tg i wr) (fun i _ => k - (intOf i).toNat)
          case atStart => exact ⟨0, none, 0, 0, fun _ => 0, A1 + 1, by omega, rfl, HR2.out, by omega, by omega, rfl, by show (0 : Int) ≤ _; omega⟩
          case round =>
            obtain ⟨j, ca, cn, cc, cs, A2, hj, rfl, hR3, hA2, hcn, hris, hprv⟩ := hrel
            have HR3 := Lib.hid hR3
            clear hR3
            by_cases hlt : j < k
            · have hlt' : (j : Int) < (k : Int) := by omega
              go_wp2_with fail
              refine (pick_any 2 (by omega) (by omega) wr p a n cap F A2 HR3.out.mkr HF.out hn (by omega)).mono ?_
              rintro e w3 ⟨r2, rfl, h20, h22, hM3, hG3⟩
              have HR4 := Lib.hid (HR3.out.next hpw hxw hM3 hG3)
              clear hM3 hG3
              by_cases q2 : r2 = 1
              · have q2' : (r2 == 1) = true := by simp [q2]
                obtain ⟨d0, f0⟩ := HR4.out.cells 0 _ rfl
                have hxs := lt_of_heap HR4.out.box
                have hown3 : w3.ownsRow (x + 1) 3 1 (.slice ca cn cc) cn (numsV cs cn) := HR4.out.own
                clear q2
                go_wp2_with (first
                  | (at_builtin; refine wpList_append_own _ rfl _ _ 44 rfl (x + 1) 3 i0 (.int .i64 0) 1 8 Tryd.underlying44 hi hz0 hz1 hz2 rfl (by decide) _ _ _ rfl (hown3.alloc _) ⟨w3.heap.size, 0, none⟩ 1 1 [.int .i64 (j : Int)] rfl rfl (cell_one_new _ _ _) (ints_oneCell .i64 [(j : Int)]) (by unfold maxLen; omega) (by omega) (by simp; omega) ?_))
                intro v' w4 hown hgrow _
                rcases hown.2 with ⟨_, h0⟩ | ⟨g', c', cur, rfl, hg', _⟩
                · omega
                · have hbx := (hgrow.block x (by simp; omega) (own_ne_lt HR4.out.own (by omega))).trans (alloc_keep HR4.out.box)
                  have e0 : w4.cell? ⟨x, 0, none⟩ = some (.slice ca cn cc) := (cell_of_row w4 x 0 _ _ _ hbx).trans rfl
                  have g0 := frozen_of_row _ _ 0 _ _ hbx
                  have HR5 := Lib.hid (HR4.out.app hpw hxw hown hgrow)
                  have hra := ris_app hris hprv hlt'
                  clear hown hgrow hbx hown3
                  go_wp2
                  go_roundw
                  case rel => exact ⟨j + 1, _, cn + 1, c', _, A2 + 1, by omega, by go_num, HR5.out, by omega, by omega, hra.1, hra.2⟩
                  case measure => simp [intOf]; omega
              · have q2' : (r2 == 1) = false := by simp [q2]
                clear q2
                go_wp2
                go_roundw
                case rel => exact ⟨j + 1, ca, cn, cc, cs, A2 + 1, by omega, by go_num, HR4.out, by omega, by omega, hris, by omega⟩
                case measure => simp [intOf]; omega
            · have hlt' : ¬ (j : Int) < (k : Int) := by omega
              go_wp2
              go_meet
              exact ⟨ca, cn, cc, cs, false, A2, HR3.out, by omega, hris⟩
        · have q1' : (r4 == 1) = false := by simp [q1]
          clear q0 q1
          go_wp2
          go_meet
          exact ⟨none, 0, 0, fun _ => 0, false, A1 + 1, HR2.out, by omega, rfl⟩
    case rest =>
      obtain ⟨ca, cn, cc, cs, al, A2, hR3, hA2, hst⟩ := hcut
      have HR := Lib.hid hR3
      have HST := Lib.hid hst
      have HBD := Lib.hid (ris_bd hk3 hst)
      clear hR3 hst
      go_upto_if 43 with (first
        | (go_at_call 27; refine (pick_any 12 (by omega) (by omega) wc p a n cap F A2 HR.out.mkr HF.out hn (by omega)).mono ?_; rintro e w3 ⟨r12, rfl, hb0, hb1, hM3, hG3⟩))
      have HR3 := Lib.hid (HR.out.next hpw hxw hM3 hG3)
      clear hM3 hG3 HR
      by_cases q11 : r12 = 11
      · have q11' : (r12 == 11) = true := by simp [q11]
        obtain ⟨d19, f19⟩ := HR3.out.cells 19 _ rfl
        have HR4 := Lib.hid (HR3.out.cell hpw hxw 19 (.bool true) ⟨ca, cn, cc, cs, al, false, zT, zT, true, ac, tg⟩ rfl ⟨rfl, rfl, rfl, rfl⟩ rfl rfl)
        have HRU := Lib.hid (show ruleB ⟨ca, cn, cc, cs, al, false, zT, zT, true, ac, tg⟩ k = true by
          unfold ruleB
          rw [show startsB ⟨ca, cn, cc, cs, al, false, zT, zT, true, ac, tg⟩ (k : Int) = true from HST.out, show actB ⟨ca, cn, cc, cs, al, false, zT, zT, true, ac, tg⟩ (k : Int) = true from HAC.out]
          unfold patB; simp [noneB, same_selfz])
        clear q11
        go_wp2_with (first
          | (refine wpList_load42 _ rfl rfl _ _ rfl ⟨ca, cn, cc, cs, al, false, zT, zT, true, ac, tg⟩ (ld22 HR4.out.box) ?_)
          | (refine wpList_store_in 46 _ _ rfl rfl w.heap.size 0 rfl (row22 ⟨ca, cn, cc, cs, al, false, zT, zT, true, ac, tg⟩) rfl (row22 rZ) 46 HR4.out.out info42 (by simp) (one22 _) (row22 ⟨ca, cn, cc, cs, al, false, zT, zT, true, ac, tg⟩) rfl ?_; intro W9 hW9; have HW9 := Lib.hid hW9; clear hW9))
        obtain ⟨hq, hfin⟩ := mr_all (A := A) (k := k) HR4.out hpw hxw HW9.out rfl HBD.out HRU.out (by rw [cnt_zT]; omega) (by rw [cnt_zT]; omega) (by omega)
        exact bodyPost_ret (v := ruleV ⟨ca, cn, cc, cs, al, false, zT, zT, true, ac, tg⟩) (ret22 Tryd.results28 rfl hq) rfl hfin
      · have q11' : (r12 == 11) = false := by simp [q11]
        clear q11
        go_wp2_with fail
        refine (smallx_any w3 p a n cap F (A2 + 1) HR3.out.mkr HF.out hn (by omega)).mono ?_
        rintro e w4 ⟨t, rfl, ot, zt, ct, lt, A4, hA4, hM4, hG4⟩
        have HR4 := Lib.hid (HR3.out.next hpw hxw hM4 hG4)
        have HRT := Lib.hid (made_right ot (by omega) ct.1)
        have HCT := Lib.hid ct.1
        have HPT := Lib.hid (show PtI w4 t from Or.inr ⟨fit_of_ok ot, lt⟩)
        clear hM4 hG4 ot zt ct lt HR3
        go_upto_if 50 with (first
          | (refine wpList_store_in 28 _ _ rfl rfl x 3 rfl (row8t t) rfl (row22 (ruC ca cn cc cs al ac tg)) 46 HR4.out.box info27s (by simp) (one8 _) (row22 ⟨ca, cn, cc, cs, al, false, t, zT, false, ac, tg⟩) rfl ?_; intro W5 hW5; have HW5 := Lib.hid hW5; clear hW5))
        have HR5 := Lib.hid (show RuI w x p a n cap F ⟨ca, cn, cc, cs, al, false, t, zT, false, ac, tg⟩ A4 W5 by rw [HW5.out]; exact HR4.out.row hpw hxw rfl HR4.out.own (Or.inr ⟨rfl, HPT.out⟩) (Or.inl rfl))
        clear HW5 HR4 HPT
        cases b
        · go_wp2_with fail
          refine (pick_any 6 (by omega) (by omega) W5 p a n cap F A4 HR5.out.mkr HF.out hn (by omega)).mono ?_
          rintro e w6 ⟨r6, rfl, hc0, hc1, hM6, hG6⟩
          have HR6 := Lib.hid (HR5.out.next hpw hxw hM6 hG6)
          obtain ⟨d2, f2⟩ := HR6.out.cells 2 _ rfl
          obtain ⟨bo, hbo⟩ : ∃ bo, bo = (r6 == 5) := ⟨_, rfl⟩
          have HR7 := Lib.hid (HR6.out.cell hpw hxw 2 (.bool bo) ⟨ca, cn, cc, cs, al, bo, t, zT, false, ac, tg⟩ rfl ⟨rfl, rfl, rfl, rfl⟩ rfl rfl)
          have hbo' : (r6 == 5) = bo := hbo.symm
          clear hM6 hG6 HR5 HR6 hbo
          go_wp2_with fail
          refine (pick_any 5 (by omega) (by omega) _ p a n cap F (A4 + 1) HR7.out.mkr HF.out hn (by omega)).mono ?_
          rintro e w8 ⟨r5, rfl, he0, he1, hM8, hG8⟩
          have HR8 := Lib.hid (HR7.out.next hpw hxw hM8 hG8)
          clear hM8 hG8 HR7 d2 f2
          by_cases q4 : r5 = 4
          · have q4' : (r5 == 4) = true := by simp [q4]
            clear q4
            go_wp2_with fail
            refine (smallx_any w8 p a n cap F (A4 + 1 + 1) HR8.out.mkr HF.out hn (by omega)).mono ?_
            rintro e w9 ⟨u, rfl, ou, zu, cu, lu, A9, hA9, hM9, hG9⟩
            have HR9 := Lib.hid (HR8.out.next hpw hxw hM9 hG9)
            have HRU := Lib.hid (made_right ou (by omega) cu.1)
            have HCU := Lib.hid cu.1
            have HPU := Lib.hid (show PtI w9 u from Or.inr ⟨fit_of_ok ou, lu⟩)
            clear hM9 hG9 ou zu cu lu HR8
            go_upto_region 21 with (first
              | (refine wpList_store_in 28 _ _ rfl rfl x 11 rfl (row8t u) rfl (row22 ⟨ca, cn, cc, cs, al, bo, t, zT, false, ac, tg⟩) 46 HR9.out.box info27s (by simp) (one8 _) (row22 ⟨ca, cn, cc, cs, al, bo, t, u, false, ac, tg⟩) rfl ?_; intro W10 hW10; have HW10 := Lib.hid hW10; clear hW10))
            have HR10 := Lib.hid (show RuI w x p a n cap F ⟨ca, cn, cc, cs, al, bo, t, u, false, ac, tg⟩ A9 W10 by rw [HW10.out]; exact HR9.out.row hpw hxw rfl HR9.out.own (Or.inl rfl) (Or.inr ⟨rfl, HPU.out⟩))
            clear HW10 HR9 HPU
            have HRB := Lib.hid (show ruleB ⟨ca, cn, cc, cs, al, bo, t, u, false, ac, tg⟩ k = true by
              unfold ruleB
              rw [show startsB ⟨ca, cn, cc, cs, al, bo, t, u, false, ac, tg⟩ (k : Int) = true from HST.out, show actB ⟨ca, cn, cc, cs, al, bo, t, u, false, ac, tg⟩ (k : Int) = true from HAC.out]
              unfold patB; simp [HRT.out, HRU.out])
            go_wp2_with (first
              | (refine wpList_load42 _ rfl rfl _ _ rfl ⟨ca, cn, cc, cs, al, bo, t, u, false, ac, tg⟩ (ld22 HR10.out.box) ?_)
              | (refine wpList_store_in 46 _ _ rfl rfl w.heap.size 0 rfl (row22 ⟨ca, cn, cc, cs, al, bo, t, u, false, ac, tg⟩) rfl (row22 rZ) 46 HR10.out.out info42 (by simp) (one22 _) (row22 ⟨ca, cn, cc, cs, al, bo, t, u, false, ac, tg⟩) rfl ?_; intro W9 hW9; have HW9 := Lib.hid hW9; clear hW9))
            obtain ⟨hq, hfin⟩ := mr_all (A := A) (k := k) HR10.out hpw hxw HW9.out rfl HBD.out HRB.out HCT.out HCU.out (by omega)
            exact bodyPost_ret (v := ruleV ⟨ca, cn, cc, cs, al, bo, t, u, false, ac, tg⟩) (ret22 Tryd.results28 rfl hq) rfl hfin
          · have q4' : (r5 == 4) = false := by simp [q4]
            clear q4
            have HRB := Lib.hid (show ruleB ⟨ca, cn, cc, cs, al, bo, t, zT, false, ac, tg⟩ k = true by
              unfold ruleB
              rw [show startsB ⟨ca, cn, cc, cs, al, bo, t, zT, false, ac, tg⟩ (k : Int) = true from HST.out, show actB ⟨ca, cn, cc, cs, al, bo, t, zT, false, ac, tg⟩ (k : Int) = true from HAC.out]
              unfold patB; simp [HRT.out, noneB, same_selfz])
            go_wp2_with (first
              | (refine wpList_load42 _ rfl rfl _ _ rfl ⟨ca, cn, cc, cs, al, bo, t, zT, false, ac, tg⟩ (ld22 HR8.out.box) ?_)
              | (refine wpList_store_in 46 _ _ rfl rfl w.heap.size 0 rfl (row22 ⟨ca, cn, cc, cs, al, bo, t, zT, false, ac, tg⟩) rfl (row22 rZ) 46 HR8.out.out info42 (by simp) (one22 _) (row22 ⟨ca, cn, cc, cs, al, bo, t, zT, false, ac, tg⟩) rfl ?_; intro W9 hW9; have HW9 := Lib.hid hW9; clear hW9))
            obtain ⟨hq, hfin⟩ := mr_all (A := A) (k := k) HR8.out hpw hxw HW9.out rfl HBD.out HRB.out HCT.out (by rw [cnt_zT]; omega) (by omega)
            exact bodyPost_ret (v := ruleV ⟨ca, cn, cc, cs, al, bo, t, zT, false, ac, tg⟩) (ret22 Tryd.results28 rfl hq) rfl hfin
        · have HRB0 := HRT
          have HRB := Lib.hid (show ruleB ⟨ca, cn, cc, cs, al, false, t, zT, false, ac, tg⟩ k = true by
            unfold ruleB
            rw [show startsB ⟨ca, cn, cc, cs, al, false, t, zT, false, ac, tg⟩ (k : Int) = true from HST.out, show actB ⟨ca, cn, cc, cs, al, false, t, zT, false, ac, tg⟩ (k : Int) = true from HAC.out]
            unfold patB; simp [HRT.out, noneB, same_selfz])
          go_wp2_with (first
            | (refine wpList_load42 _ rfl rfl _ _ rfl ⟨ca, cn, cc, cs, al, false, t, zT, false, ac, tg⟩ (ld22 HR5.out.box) ?_)
            | (refine wpList_store_in 46 _ _ rfl rfl w.heap.size 0 rfl (row22 ⟨ca, cn, cc, cs, al, false, t, zT, false, ac, tg⟩) rfl (row22 rZ) 46 HR5.out.out info42 (by simp) (one22 _) (row22 ⟨ca, cn, cc, cs, al, false, t, zT, false, ac, tg⟩) rfl ?_; intro W9 hW9; have HW9 := Lib.hid hW9; clear hW9))
          obtain ⟨hq, hfin⟩ := mr_all (A := A) (k := k) HR5.out hpw hxw HW9.out rfl HBD.out HRB.out HCT.out (by rw [cnt_zT]; omega) (by omega)
          exact bodyPost_ret (v := ruleV ⟨ca, cn, cc, cs, al, false, t, zT, false, ac, tg⟩) (ret22 Tryd.results28 rfl hq) rfl hfin
end Go.Proofs.YtnfchlkdppblfaaDoor
