/- The places of a pattern as a value (api.Places); the document's empty, maybe, both. -/
import Derived.Test.YtbahadgcmaabcaaJm
import Derived.Test.YtbahadgcmaabcaaJf
import Derived.Deep.RegionHeld3
namespace Go.Proofs.Ytbahadgcmaabcaa
open Go.RowKit Go
/-- The value reads as some sets. -/
def SL (w : World) (v : Value) (set : Nat → Nat → Int) (n : Nat) : Prop :=
  ∃ a cap, v = .slice a n cap ∧ n ≤ cap ∧ cap ≤ maxLen ∧ (a = none → cap = 0) ∧ (0 < n → ∃ g off, a = some ⟨g, off, none⟩ ∧ (g < w.heap.size ∧ ∃ cs f, w.heap[g]? = some (Obj.cells cs 24 f)) ∧ ∀ j u, (flatW set n)[j]? = some u → w.cell? ⟨g, off + j, none⟩ = some u)
/-- The value reads as some values in a row. -/
def RL (w : World) (v : Value) (us : Nat → Value) (n : Nat) : Prop :=
  ∃ a cap, v = .slice a n cap ∧ n ≤ cap ∧ cap ≤ maxLen ∧ (a = none → cap = 0) ∧ (0 < n → ∃ g off, a = some ⟨g, off, none⟩ ∧ (g < w.heap.size ∧ ∃ cs f, w.heap[g]? = some (Obj.cells cs 37 f)) ∧ ∀ i, i < n → w.cell? ⟨g, off + i, none⟩ = some (us i))
theorem SL.below {w w' : World} {v : Value} {set : Nat → Nat → Int} {n : Nat} (h : SL w v set n) (hb : Below w.heap.size w w') : SL w' v set n := by
  obtain ⟨a, cap, hv, h1, h2, h0, h3⟩ := h
  refine ⟨a, cap, hv, h1, h2, h0, fun hp => ?_⟩
  obtain ⟨g, off, ha, ⟨hg, cs, f, ht⟩, hc⟩ := h3 hp
  exact ⟨g, off, ha, ⟨Nat.lt_of_lt_of_le hg hb.size, cs, f, (hb.block _ hg).trans ht⟩, fun j u hu => (hb.cell (p := ⟨g, _, none⟩) hg).trans (hc j u hu)⟩
theorem RL.below {w w' : World} {v : Value} {us : Nat → Value} {n : Nat} (h : RL w v us n) (hb : Below w.heap.size w w') : RL w' v us n := by
  obtain ⟨a, cap, hv, h1, h2, h0, h3⟩ := h
  refine ⟨a, cap, hv, h1, h2, h0, fun hp => ?_⟩
  obtain ⟨g, off, ha, ⟨hg, cs, f, ht⟩, hc⟩ := h3 hp
  exact ⟨g, off, ha, ⟨Nat.lt_of_lt_of_le hg hb.size, cs, f, (hb.block _ hg).trans ht⟩, fun i hi => (hb.cell (p := ⟨g, _, none⟩) hg).trans (hc i hi)⟩
theorem sl_row {w : World} {base : Nat} {v : Value} {set : Nat → Nat → Int} {n : Nat} (h : w.ownsRow base 24 4 v n (flatW set n)) : SL w v set n := by
  have h' := h
  obtain ⟨_, ⟨rfl, h0⟩ | ⟨g, cap, cur, rfl, hg, hh, h1, h2, h3, h4⟩⟩ := h
  · exact ⟨none, 0, by rw [h0], by omega, by unfold maxLen; omega, fun _ => rfl, fun hp => by omega⟩
  · refine ⟨_, cap, rfl, h1, h2, (fun h => by cases h), fun _ => ⟨g, 0, rfl, ⟨lt_heap hh, by obtain ⟨_, cs, h⟩ := own_type h' g rfl; exact ⟨cs, _, h⟩⟩, fun j u hu => ?_⟩⟩
    have := h'.cells (g := g) rfl j u hu
    rwa [Addr.add_lit] at this
theorem rl_row {w : World} {base : Nat} {v : Value} {us : Nat → Value} {n : Nat} (h : w.ownsRow base 37 1 v n (rowV us n)) : RL w v us n := by
  have h' := h
  obtain ⟨_, ⟨rfl, h0⟩ | ⟨g, cap, cur, rfl, hg, hh, h1, h2, h3, h4⟩⟩ := h
  · exact ⟨none, 0, by rw [h0], by omega, by unfold maxLen; omega, fun _ => rfl, fun hp => by omega⟩
  · refine ⟨_, cap, rfl, h1, h2, (fun h => by cases h), fun _ => ⟨g, 0, rfl, ⟨lt_heap hh, by obtain ⟨_, cs, h⟩ := own_type h' g rfl; exact ⟨cs, _, h⟩⟩, fun i hi => ?_⟩⟩
    have := h'.cells (g := g) rfl i _ (rowV_get us hi)
    rwa [Addr.add_lit] at this
theorem SL.other {w w' : World} {v : Value} {set : Nat → Nat → Int} {n q e : Nat} {cs : Array Value} (h : SL w v set n) (hg : w.grownBy w' (some q)) (hq : w.heap[q]? = some (.cells cs e (0, 0))) (he : e ≠ 24) : SL w' v set n := by
  obtain ⟨a, cap, hv, h1, h2, h0, h3⟩ := h
  refine ⟨a, cap, hv, h1, h2, h0, fun hp => ?_⟩
  obtain ⟨g, off, ha, ⟨hlt, cs', f, ht⟩, hc⟩ := h3 hp
  have hne : g ≠ q := fun e' => by
    subst e'
    rw [hq] at ht
    injection ht with ht
    injection ht with _ ht _
    exact he ht
  have hb := hg.block g hlt fun e => hne (Option.some.inj e)
  exact ⟨g, off, ha, ⟨lt_heap (hb.trans ht), cs', f, hb.trans ht⟩, fun j u hu => (World.cell?_of_block (a := ⟨g, off + j, none⟩) hb).trans (hc j u hu)⟩
theorem RL.other {w w' : World} {v : Value} {us : Nat → Value} {n q e : Nat} {cs : Array Value} (h : RL w v us n) (hg : w.grownBy w' (some q)) (hq : w.heap[q]? = some (.cells cs e (0, 0))) (he : e ≠ 37) : RL w' v us n := by
  obtain ⟨a, cap, hv, h1, h2, h0, h3⟩ := h
  refine ⟨a, cap, hv, h1, h2, h0, fun hp => ?_⟩
  obtain ⟨g, off, ha, ⟨hlt, cs', f, ht⟩, hc⟩ := h3 hp
  have hne : g ≠ q := fun e' => by
    subst e'
    rw [hq] at ht
    injection ht with ht
    injection ht with _ ht _
    exact he ht
  have hb := hg.block g hlt fun e => hne (Option.some.inj e)
  exact ⟨g, off, ha, ⟨lt_heap (hb.trans ht), cs', f, hb.trans ht⟩, fun i hi => (World.cell?_of_block (a := ⟨g, off + i, none⟩) hb).trans (hc i hi)⟩
/-- The value of all that is told of places. -/
abbrev plV (vs vf vl vo : Value) (b : Bool) : Value := .agg #[vs, vf, vl, vo, .bool b]
abbrev pl5 (vs vf vl vo : Value) (b : Bool) : Array Value := #[vs, vf, vl, vo, .bool b]
structure PlX (w : World) (P : Pl) (vs vf vl vo : Value) (lf ll : List Int) (us : Nat → Value) (F : Nat → List Int) : Prop where
  sets : SL w vs P.set P.n
  ffi : IL w vf lf
  sfi : IsL lf P.fi
  fla : IL w vl ll
  sla : IsL ll P.la
  rows : RL w vo us P.n
  lists : ∀ i, i < P.n → IL w (us i) (F i) ∧ IsL (F i) (P.fo i)
  ok : P.Ok
def PlV (w : World) (v : Value) (P : Pl) : Prop := ∃ vs vf vl vo lf ll us F, v = plV vs vf vl vo P.nu ∧ PlX w P vs vf vl vo lf ll us F
theorem PlX.below {w w' : World} {P : Pl} {vs vf vl vo : Value} {lf ll : List Int} {us : Nat → Value} {F : Nat → List Int} (h : PlX w P vs vf vl vo lf ll us F) (hb : Below w.heap.size w w') : PlX w' P vs vf vl vo lf ll us F :=
  ⟨h.sets.below hb, h.ffi.below hb, h.sfi, h.fla.below hb, h.sla, h.rows.below hb, fun i hi => ⟨(h.lists i hi).1.below hb, (h.lists i hi).2⟩, h.ok⟩
theorem PlV.below {w w' : World} {v : Value} {P : Pl} (h : PlV w v P) (hb : Below w.heap.size w w') : PlV w' v P := by
  obtain ⟨vs, vf, vl, vo, lf, ll, us, F, hv, hX⟩ := h
  exact ⟨vs, vf, vl, vo, lf, ll, us, F, hv, hX.below hb⟩
/-- Places stand, whatever box of places is written. -/
theorem PlV.other {w w' : World} {v : Value} {P : Pl} {q : Nat} {cs : Array Value} (h : PlV w v P) (hg : w.grownBy w' (some q)) (hq : w.heap[q]? = some (.cells cs 40 (0, 0))) : PlV w' v P := by
  obtain ⟨vs, vf, vl, vo, lf, ll, us, F, hv, hX⟩ := h
  have key : ∀ v l, IL w v l → IL w' v l := fun v l hv => il_other hv hg fun k hk => by cases hk; exact ⟨cs, _, hq, by decide⟩
  exact ⟨vs, vf, vl, vo, lf, ll, us, F, hv, ⟨hX.sets.other hg hq (by decide), key _ _ hX.ffi, hX.sfi, key _ _ hX.fla, hX.sla, hX.rows.other hg hq (by decide), fun i hi => ⟨key _ _ (hX.lists i hi).1, (hX.lists i hi).2⟩, hX.ok⟩⟩
/-- What the document's functions on places come to. -/
def PlE (w : World) (P : Pl) (e : Ending) (w' : World) : Prop := ∃ v, e = .returned v ∧ PlV w' v P ∧ Below w.heap.size w w'
theorem info40s : (Try.prog.info? 40).map (·.size) = some 5 := by kernel_rfl
theorem ret5c {fn : Func} {p : Tmp} (h : fn.results = #[.cell p 40]) {tmps : Array Value} {w : World} {g : Nat} {a b c d e : Value} (hp : tmps.getD p undef = .pointer (some ⟨g, 0, none⟩)) (hg : w.heap[g]? = some (.cells #[a, b, c, d, e] 40 (0, 0))) :
    (results fn tmps).run Try.prog w = .ok (.agg #[a, b, c, d, e]) w :=
  results_cell_row h tmps w g 40 _ _ _ hp hg Try.underlying40 rfl info40s
theorem cell5 {w : World} {g ty : Nat} {a b c d e : Value} (h : w.heap[g]? = some (.cells #[a, b, c, d, e] ty (0, 0))) : w.cell? ⟨g, 0, none⟩ = some a ∧ w.cell? ⟨g, 1, none⟩ = some b ∧ w.cell? ⟨g, 2, none⟩ = some c ∧ w.cell? ⟨g, 3, none⟩ = some d ∧ w.cell? ⟨g, 4, none⟩ = some e :=
  ⟨cell_of_row w g 0 _ _ _ h, cell_of_row w g 1 _ _ _ h, cell_of_row w g 2 _ _ _ h, cell_of_row w g 3 _ _ _ h, cell_of_row w g 4 _ _ _ h⟩
abbrev put5 (w : World) (g : Nat) (a b c d e : Value) : World := ((((w.setCell ⟨g, 0, none⟩ a).setCell ⟨g, 1, none⟩ b).setCell ⟨g, 2, none⟩ c).setCell ⟨g, 3, none⟩ d).setCell ⟨g, 4, none⟩ e
theorem stored5 {w : World} {g ty : Nat} {a b c d e : Value} (x1 x2 x3 x4 x5 : Value) (h : w.heap[g]? = some (.cells #[a, b, c, d, e] ty (0, 0))) : (put5 w g x1 x2 x3 x4 x5).heap[g]? = some (.cells #[x1, x2, x3, x4, x5] ty (0, 0)) := by
  have h1 := heap_setCell_same w g 0 _ _ x1 h
  have h2 := heap_setCell_same _ g 1 _ _ x2 h1
  have h3 := heap_setCell_same _ g 2 _ _ x3 h2
  have h4 := heap_setCell_same _ g 3 _ _ x4 h3
  have h5 := heap_setCell_same _ g 4 _ _ x5 h4
  rw [h5]; simp
theorem put5_grown (w : World) (g : Nat) (a b c d e : Value) : w.grownBy (put5 w g a b c d e) (some g) := grownBy_trans (grownBy_trans (grownBy_trans (grownBy_trans (grown_set _ _ _ _) (grown_set _ _ _ _)) (grown_set _ _ _ _)) (grown_set _ _ _ _)) (grown_set _ _ _ _)
theorem put5_below {B : Nat} {w0 w : World} (h : Below B w0 w) {g : Nat} (hg : B ≤ g) (a b c d e : Value) : Below B w0 (put5 w g a b c d e) :=
  (((((h.setCell (show B ≤ (⟨g, 0, none⟩ : Addr).block from hg) a).setCell (show B ≤ (⟨g, 1, none⟩ : Addr).block from hg) b).setCell (show B ≤ (⟨g, 2, none⟩ : Addr).block from hg) c).setCell (show B ≤ (⟨g, 3, none⟩ : Addr).block from hg) d).setCell (show B ≤ (⟨g, 4, none⟩ : Addr).block from hg) e)
abbrev pl0 : Array Value := #[.slice none 0 0, .slice none 0 0, .slice none 0 0, .slice none 0 0, .bool false]
theorem sl_nil (w : World) (set : Nat → Nat → Int) : SL w (.slice none 0 0) set 0 := ⟨none, 0, rfl, Nat.le_refl _, by unfold maxLen; omega, fun _ => rfl, fun h => by omega⟩
theorem rl_nil (w : World) (us : Nat → Value) : RL w (.slice none 0 0) us 0 := ⟨none, 0, rfl, Nat.le_refl _, by unfold maxLen; omega, fun _ => rfl, fun h => by omega⟩
theorem plV_nil (w : World) (b : Bool) : PlV w (plV (.slice none 0 0) (.slice none 0 0) (.slice none 0 0) (.slice none 0 0) b) (Pl.nil b) :=
  ⟨_, _, _, _, [], [], fun _ => undef, fun _ => [], rfl, sl_nil _ _, il_nil _, isL_nil fun _ => rfl, il_nil _, isL_nil fun _ => rfl, rl_nil _ _, fun i hi => absurd hi (Nat.not_lt_zero i), Pl.ok_nil b⟩
set_option maxRecDepth 100000 in
theorem empty_any9 (w : World) : Calls Try.prog 45 #[] w (PlE w (Pl.nil true)) := by
  go_enter Try.func45, Try.ntmps45
  go_wp2
  exact bodyPost_ret (ret5c Try.results45 rfl (heap_alloc_new w (.cells (pl5 (.slice none 0 0) (.slice none 0 0) (.slice none 0 0) (.slice none 0 0) true) 40))) rfl ⟨_, rfl, plV_nil _ true, alloc_below _ _⟩
set_option maxRecDepth 100000 in
set_option maxHeartbeats 1000000 in
theorem maybe_any9 (P : Pl) (v : Value) (w : World) (h : PlV w v P) : Calls Try.prog 49 #[v] w (PlE w P.may) := by
  obtain ⟨vs, vf, vl, vo, lf, ll, us, F, rfl, hX⟩ := h
  have HX := Lib.hid hX
  obtain ⟨⟨a1, c1, rfl, _⟩, ⟨a2, c2, rfl, _⟩, _, ⟨a3, c3, rfl, _⟩, _, ⟨a4, c4, rfl, _⟩, _, _⟩ := hX
  go_enter Try.func49, Try.ntmps49
  go_wp2_with fail
  have hb := alloc2_below w (.cells (pl5 (.slice a1 P.n c1) (.slice a2 lf.length c2) (.slice a3 ll.length c3) (.slice a4 P.n c4) true) 40) (.cells (pl5 (.slice a1 P.n c1) (.slice a2 lf.length c2) (.slice a3 ll.length c3) (.slice a4 P.n c4) true) 40)
  have hY := HX.out.below hb
  have hg := heap_alloc_new (w.alloc (.cells (pl5 (.slice a1 P.n c1) (.slice a2 lf.length c2) (.slice a3 ll.length c3) (.slice a4 P.n c4) true) 40)) (.cells (pl5 (.slice a1 P.n c1) (.slice a2 lf.length c2) (.slice a3 ll.length c3) (.slice a4 P.n c4) true) 40)
  rw [show (w.alloc (.cells (pl5 (.slice a1 P.n c1) (.slice a2 lf.length c2) (.slice a3 ll.length c3) (.slice a4 P.n c4) true) 40)).heap.size = w.heap.size + 1 by simp] at hg
  exact bodyPost_ret (ret5c Try.results49 rfl hg) rfl ⟨_, rfl, ⟨_, _, _, _, _, _, us, F, by simp [plV, Pl.orN], ⟨hY.sets, hY.ffi, hY.sfi, hY.fla, hY.sla, hY.rows, hY.lists, hY.ok.orN true⟩⟩, hb⟩
end Go.Proofs.Ytbahadgcmaabcaa
/- The document's both of layer 9: the places of one, and behind them those of another. -/
namespace Go.Proofs.Ytbahadgcmaabcaa
open Go.RowKit Go
/-- 'append' of some sets to a row of the call's own, in a region that draws its order. -/
theorem step_append_sl {w : World} {ops : Array Oper} {o : Oper} {a : Act} {K : Act → World → Prop} {Q : Exit → Act → World → Prop} {X : Prop} (hgd : o.guard = none) (s x : Operand)
    (ho : o.op = .call { callee := .builtin .append, args := #[s, x], argTypes := #[36, 36] }) (base : Nat) (v u : Value) (n m : Nat) (xs : List Value) (set : Nat → Nat → Int) (hs : a.eval s = v) (hown : w.ownsRow base 24 4 v n xs) (hx : a.eval x = u) (hu : SL w u set m)
    (hlen : n + m ≤ 100000) (hbase : base ≤ w.heap.size) (h : ∀ v' w', w'.ownsRow base 24 4 v' (n + m) (xs ++ flatW set m) → w.grownBy w' v.ownBlock → K (a.put o.dst v') w') :
    if Region.wanted o (yielded ops a.tmps) = true then Oper.wp Try.prog o a w K Q else X := by
  obtain ⟨i0, hi, hz0, hz1, hz2⟩ := info_parts info24w
  obtain ⟨ad, cap, rfl, h1, h2, h0, h3⟩ := hu
  cases ad with
  | none =>
    obtain rfl := h0 rfl
    obtain rfl : m = 0 := by omega
    have hw : Region.wanted o (yielded ops a.tmps) = true := by simp [Region.wanted, hgd]
    rw [if_pos hw]
    have hrun := run_append_owned_none (P := Try.prog) w base 36 o.type 24 i0 4 Try.underlying36 hi v _ _ hown
    unfold Oper.wp execOp
    simp only [ho, resolve, invoke, builtin, Sem.run_bind, Sem.run_pure, Result.andThen_ok, List.map_toArray, List.map_cons, List.map_nil, hs, hx, hrun]
    exact h _ _ (by simpa [flatW] using hown) (World.grownBy.refl _ _)
  | some ad =>
    refine step_append_own hgd s x 36 ho base 24 i0 _ 4 32 Try.underlying36 hi hz0 hz1 hz2 rfl (by omega) v n xs hs hown ad m cap (flatW set m) hx (flatW_len _ _) (fun j w1 hj => ?_) ?_ (by unfold maxLen; omega) (by omega) hbase fun v' w' k1 k2 _ => h v' w' k1 k2
    · have hm : 0 < m := by
        have := (List.getElem?_eq_some_iff.1 hj).1
        rw [flatW_len] at this; omega
      obtain ⟨g, off, ha, _, hc⟩ := h3 hm
      cases ha
      rw [Addr.add_lit]
      exact hc j w1 hj
    · have key : ∀ q, ∀ u ∈ flatW set q, u.oneCell' = true := fun q => by
        induction q with
        | zero => simp [flatW]
        | succ q ih =>
          intro u hu
          rw [flatW, List.mem_append] at hu
          rcases hu with hu | hu
          · exact ih u hu
          · simp at hu
            rcases hu with rfl | rfl | rfl | rfl <;> rfl
      exact key m
/-- While a function on places runs: boxes that stand, the box of the answer at q, its row of sets, its row of lists. -/
structure BoX (w : World) (L : List (Nat × Array Value)) (q : Nat) (sv r1 r2 vo r4 : Value) (m : Nat) (set : Nat → Nat → Int) (n : Nat) (us : Nat → Value) (F : Nat → List Int) (W : World) : Prop where
  bx : ∀ x ∈ L, W.heap[x.1]? = some (.cells x.2 40 (0, 0)) ∧ x.1 ≠ q ∧ w.heap.size ≤ x.1
  c7 : W.heap[q]? = some (.cells #[sv, r1, r2, vo, r4] 40 (0, 0))
  lo : w.heap.size ≤ q
  bel : Below w.heap.size w W
  sets : W.ownsRow w.heap.size 24 4 sv m (flatW set m)
  rows : W.ownsRow w.heap.size 37 1 vo n (rowV us n)
  lists : ∀ i, i < n → IL W (us i) (F i)
section
variable {w : World} {L : List (Nat × Array Value)} {q : Nat} {sv r1 r2 vo r4 : Value} {m : Nat} {set : Nat → Nat → Int} {n : Nat} {us : Nat → Value} {F : Nat → List Int} {W W' : World}
theorem BoX.below (h : BoX w L q sv r1 r2 vo r4 m set n us F W) (hb : Below W.heap.size W W') : BoX w L q sv r1 r2 vo r4 m set n us F W' :=
  ⟨fun x hx => ⟨(hb.block _ (lt_heap (h.bx x hx).1)).trans (h.bx x hx).1, (h.bx x hx).2⟩, (hb.block _ (lt_heap h.c7)).trans h.c7, h.lo, h.bel.trans (hb.mono h.bel.size), ownsRow_below h.sets hb, ownsRow_below h.rows hb, fun i hi => (h.lists i hi).below hb⟩
/-- The box of the answer is written. -/
theorem BoX.put (h : BoX w L q sv r1 r2 vo r4 m set n us F W) {s1 s2 s4 : Value} (hg : W.grownBy W' (some q)) (h7 : W'.heap[q]? = some (.cells #[sv, s1, s2, vo, s4] 40 (0, 0))) : BoX w L q sv s1 s2 vo s4 m set n us F W' := by
  have hp : ∀ k, some q = some k → ∃ cs e', W.heap[k]? = some (.cells cs e' (0, 0)) ∧ e' = 40 := fun k hk => by cases hk; exact ⟨_, _, h.c7, rfl⟩
  exact ⟨fun x hx => ⟨(hg.block _ (lt_heap (h.bx x hx).1) fun e => (h.bx x hx).2.1 (Option.some.inj e)).trans (h.bx x hx).1, (h.bx x hx).2⟩, h7, h.lo, h.bel.grown hg h.bel.size fun k hk => by cases hk; exact h.lo,
    row_other h.sets hg fun k hk => by obtain ⟨cs, e', h1, h2⟩ := hp k hk; exact ⟨cs, e', h1, by rw [h2]; decide⟩,
    row_other h.rows hg fun k hk => by obtain ⟨cs, e', h1, h2⟩ := hp k hk; exact ⟨cs, e', h1, by rw [h2]; decide⟩,
    fun i hi => il_other (h.lists i hi) hg fun k hk => by obtain ⟨cs, e', h1, h2⟩ := hp k hk; exact ⟨cs, e', h1, by rw [h2]; decide⟩⟩
/-- One list more. -/
theorem BoX.addRow (h : BoX w L q sv r1 r2 vo r4 m set n us F W) (u : Value) (l : List Int) (hu : IL W u l) {vo' : Value} (hown : W'.ownsRow w.heap.size 37 1 vo' (n + 1) (rowV us n ++ [u])) (hg : W.grownBy W' vo.ownBlock) :
    BoX w L q sv r1 r2 vo' r4 m set (n + 1) (fun i => if i = n then u else us i) (fun i => if i = n then l else F i) (W'.setCell ⟨q, 3, none⟩ vo') := by
  have hne : ∀ k, vo.ownBlock = some k → ∃ cs e', W.heap[k]? = some (.cells cs e' (0, 0)) ∧ e' = 37 := fun k hk => by obtain ⟨_, cs, h1⟩ := own_type h.rows k hk; exact ⟨cs, _, h1, rfl⟩
  have keep : ∀ (b : Nat) (cs : Array Value), W.heap[b]? = some (Obj.cells cs 40 (0, 0)) → W'.heap[b]? = some (Obj.cells cs 40 (0, 0)) := fun b cs hb => (hg.block b (lt_heap hb) fun e => by
    obtain ⟨cs', e', h1, h2⟩ := hne b e.symm
    rw [hb] at h1
    injection h1 with h1
    injection h1 with _ h1 _
    rw [h2] at h1
    exact absurd h1 (by decide)).trans hb
  have h7 := keep _ _ h.c7
  have hs := grown_set W' q 3 vo'
  have hp : ∀ k, some q = some k → ∃ cs e', W'.heap[k]? = some (.cells cs e' (0, 0)) ∧ e' = 40 := fun k hk => by cases hk; exact ⟨_, _, h7, rfl⟩
  have key : ∀ v l, IL W v l → IL (W'.setCell ⟨q, 3, none⟩ vo') v l := fun v l hv =>
    il_other (il_other hv hg fun k hk => by obtain ⟨cs, e', h1, h2⟩ := hne k hk; exact ⟨cs, e', h1, by rw [h2]; decide⟩) hs fun k hk => by obtain ⟨cs, e', h1, h2⟩ := hp k hk; exact ⟨cs, e', h1, by rw [h2]; decide⟩
  refine ⟨fun x hx => ⟨(hs.block _ (lt_heap (keep _ _ (h.bx x hx).1)) fun e => (h.bx x hx).2.1 (Option.some.inj e)).trans (keep _ _ (h.bx x hx).1), (h.bx x hx).2⟩, ?_, h.lo, ?_, ?_, ?_, fun i hi => ?_⟩
  · rw [heap_setCell_same _ _ 3 _ _ vo' h7]; simp
  · exact (h.bel.grown hg h.bel.size fun k hk => (own_type h.rows k hk).1).setCell (show w.heap.size ≤ (⟨q, 3, none⟩ : Addr).block from h.lo) _
  · exact row_other (row_other h.sets hg fun k hk => by obtain ⟨cs, e', h1, h2⟩ := hne k hk; exact ⟨cs, e', h1, by rw [h2]; decide⟩) hs fun k hk => by obtain ⟨cs, e', h1, h2⟩ := hp k hk; exact ⟨cs, e', h1, by rw [h2]; decide⟩
  · have := row_other hown hs fun k hk => by obtain ⟨cs, e', h1, h2⟩ := hp k hk; exact ⟨cs, e', h1, by rw [h2]; decide⟩
    rwa [rowV_snoc] at this
  · by_cases e : i = n
    · rw [if_pos e, if_pos e]; exact key _ _ hu
    · rw [if_neg e, if_neg e]; exact key _ _ (h.lists i (by omega))
/-- One list is another. -/
theorem BoX.setRow {gf c : Nat} (h : BoX w L q sv r1 r2 (.slice (some ⟨gf, 0, none⟩) n c) r4 m set n us F W) (j : Nat) (u : Value) (l : List Int) (hu : IL W u l) :
    BoX w L q sv r1 r2 (.slice (some ⟨gf, 0, none⟩) n c) r4 m set n (fun i => if i = j then u else us i) (fun i => if i = j then l else F i) (W.setCell ⟨gf, j, none⟩ u) := by
  obtain ⟨h0, cs, h1⟩ := own_type h.rows gf rfl
  have hs := grown_set W gf j u
  have hp : ∀ k, some gf = some k → ∃ cs e', W.heap[k]? = some (.cells cs e' (0, 0)) ∧ e' = 37 := fun k hk => by cases hk; exact ⟨_, _, h1, rfl⟩
  have keep : ∀ (b : Nat) (cs : Array Value), W.heap[b]? = some (Obj.cells cs 40 (0, 0)) → (W.setCell ⟨gf, j, none⟩ u).heap[b]? = some (Obj.cells cs 40 (0, 0)) := fun b cs hb => (hs.block b (lt_heap hb) fun e => by
    cases e
    rw [hb] at h1
    injection h1 with h1
    injection h1 with _ h1 _
    exact absurd h1 (by decide)).trans hb
  have key : ∀ v l, IL W v l → IL (W.setCell ⟨gf, j, none⟩ u) v l := fun v l hv => il_other hv hs fun k hk => by obtain ⟨cs, e', h1, h2⟩ := hp k hk; exact ⟨cs, e', h1, by rw [h2]; decide⟩
  refine ⟨fun x hx => ⟨keep _ _ (h.bx x hx).1, (h.bx x hx).2⟩, keep _ _ h.c7, h.lo, h.bel.setCell (show w.heap.size ≤ (⟨gf, j, none⟩ : Addr).block from h0) _, ?_, ?_, fun i hi => ?_⟩
  · exact row_other h.sets hs fun k hk => by obtain ⟨cs, e', h1, h2⟩ := hp k hk; exact ⟨cs, e', h1, by rw [h2]; decide⟩
  · have := (h.rows.stored j u).1
    rwa [rowV_set] at this
  · by_cases e : i = j
    · rw [if_pos e, if_pos e]; exact key _ _ hu
    · rw [if_neg e, if_neg e]; exact key _ _ (h.lists i hi)
end
/-- What stands behind the places of A, with those of B. -/
def bset (A B : Pl) (i : Nat) : Nat → Int := if i < A.n then A.set i else B.set (i - A.n)
def bfo (A B : Pl) (i j : Nat) : Bool := if i < A.n then A.fo i j else sh (B.fo (i - A.n)) A.n j
theorem flatW_append (A B : Pl) : ∀ n, n ≤ B.n → flatW A.set A.n ++ flatW B.set n = flatW (bset A B) (A.n + n)
  | 0, _ => by
    rw [flatW, List.append_nil]
    exact flatW_congr fun i hi => by unfold bset; rw [if_pos (by omega)]
  | n + 1, h => by
    rw [flatW, ← List.append_assoc, flatW_append A B n (by omega)]
    show _ = flatW (bset A B) (A.n + n + 1)
    rw [flatW]
    have e : bset A B (A.n + n) = B.set n := by unfold bset; rw [if_neg (by omega)]; congr 1; omega
    rw [e]
/-- What both comes to. -/
def BothE (w : World) (A B : Pl) (e : Ending) (w' : World) : Prop :=
  ∃ (sv vo : Value) (us : Nat → Value) (F : Nat → List Int), e = .returned (plV sv (.slice none 0 0) (.slice none 0 0) vo false) ∧ w'.ownsRow w.heap.size 24 4 sv (A.n + B.n) (flatW (bset A B) (A.n + B.n)) ∧ w'.ownsRow w.heap.size 37 1 vo (A.n + B.n) (rowV us (A.n + B.n)) ∧ (∀ i, i < A.n + B.n → IL w' (us i) (F i) ∧ IsL (F i) (bfo A B i)) ∧ Below w.heap.size w w'
end Go.Proofs.Ytbahadgcmaabcaa
