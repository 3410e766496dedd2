/- Contracts of maps.Clone and of the step's fresh: the places that were not reached before. -/
import Derived.Test.YtnfchlkdppblfaaEc
import Derived.Shelf.SlMaps.Clone
namespace Go.Proofs.Ytnfchlkdppblfaa
open Go.RowKit Go.Maps Go
set_option maxRecDepth 100000 in
set_option maxHeartbeats 2000000 in
theorem clone_any (b : Nat) (es : Array MapEntry) (clock : Nat) (w : World) (hb : w.heap[b]? = some (.map es clock)) :
    Calls Try.prog 76 #[.map (some b)] w fun e w' => e = .returned (.map (some w.heap.size)) ∧ w' = w.alloc (.map es clock) := by
  have hq := fun w => run_eql_map_nil_sl (P := Try.prog) w 47 _ _ (some b) Try.underlying47
  go_enter Try.func76, Try.ntmps76
  go_wp2
  rw [run_callFunc_extern Try.func83 (by kernel_rfl) (by kernel_rfl) (by kernel_rfl) (e := Extern.MapsClone.clone) (by kernel_rfl), run_maps_clone_sl w 47 hb]
  simp only [Result.andThen]
  rw [Oper.upon_value]
  go_wp2
  rw [run_typeAssert_map_sl _ 47 20 _ _ _ Try.underlying47]
  simp only [Result.andThen]
  rw [Oper.upon_value]
  go_wp2
  go_ret
  exact ⟨rfl, rfl⟩
theorem clone_ps {b : Nat} {S : Nat → Prop} {w : World} (h : PS w b S) : Calls Try.prog 76 #[.map (some b)] w fun e w' => e = .returned (.map (some w.heap.size)) ∧ PS w' w.heap.size S ∧ w.grownBy w' none ∧ w'.heap.size = w.heap.size + 1 := by
  obtain ⟨D, ⟨es, clock, h1, h2, h3, h4⟩, hs⟩ := h
  refine (clone_any b es clock w h1).mono ?_
  rintro e w' ⟨rfl, rfl⟩
  exact ⟨rfl, ⟨D, ⟨es, clock, heap_alloc_new _ _, h2, h3, h4⟩, hs⟩, World.grownBy_alloc _ _ _, by simp⟩
theorem below_of {w w' : World} (h : w.grownBy w' none) : Below w.heap.size w w' := (Below.refl w.heap.size w).grown h (Nat.le_refl _) (fun j hj => by cases hj)
theorem fresh_start {D DF : DataW Unit} {F R : Nat → Prop} (h : Hs D F) (hF : Hs DF F) : Hs D (df F fun i => R i ∧ ¬ lf (Maps.has DF) i) := hs_congr h fun i => by
  constructor
  · exact fun q => ⟨q, fun h => h.2 ((hF i).2 ⟨i, rfl, q⟩)⟩
  · exact fun q => q.1
theorem fresh_end {D : DataW Unit} {F R : Nat → Prop} {left : Lit → Bool} (h : Hs D (df F fun i => R i ∧ ¬ lf left i)) (hl : ∀ kl, left kl = false) : Hs D (df F R) := hs_congr h fun i => by
  have : ¬ lf left i := fun h => by unfold lf at h; rw [hl] at h; cases h
  unfold df
  exact and_congr_right fun _ => not_congr ⟨fun h => h.1, fun h => ⟨h, this⟩⟩
theorem lf_strike (left : Lit → Bool) (i j : Nat) : lf (fun z => left z && !z.sameKey (.int .i64 (i : Int))) j ↔ lf left j ∧ j ≠ i := by
  unfold lf
  rw [strike_iff]
  exact and_congr_right fun _ => not_congr (by omega)
theorem fresh_keep {D : DataW Unit} {F R : Nat → Prop} {left : Lit → Bool} {i : Nat} (hi : ¬ R i) (h : Hs D (df F fun i => R i ∧ ¬ lf left i)) : Hs D (df F fun j => R j ∧ ¬ lf (fun z => left z && !z.sameKey (.int .i64 (i : Int))) j) := hs_congr h fun j => by
  show F j ∧ ¬ (R j ∧ ¬ lf left j) ↔ F j ∧ ¬ (R j ∧ ¬ lf (fun z => left z && !z.sameKey (.int .i64 (i : Int))) j)
  rw [lf_strike]
  refine and_congr_right fun _ => not_congr (and_congr_right fun hj => not_congr ?_)
  exact ⟨fun h => ⟨h, fun e => hi (e ▸ hj)⟩, fun h => h.1⟩
theorem fresh_drop {D : DataW Unit} {F R : Nat → Prop} {left : Lit → Bool} {i : Nat} (hi : R i) (h : Hs D (df (df F fun i => R i ∧ ¬ lf left i) fun j => j = i)) : Hs D (df F fun j => R j ∧ ¬ lf (fun z => left z && !z.sameKey (.int .i64 (i : Int))) j) := hs_congr h fun j => by
  show (F j ∧ ¬ (R j ∧ ¬ lf left j)) ∧ ¬ (j = i) ↔ F j ∧ ¬ (R j ∧ ¬ lf (fun z => left z && !z.sameKey (.int .i64 (i : Int))) j)
  rw [lf_strike]
  constructor
  · rintro ⟨⟨h1, h2⟩, h3⟩
    exact ⟨h1, fun h => h2 ⟨h.1, fun q => h.2 ⟨q, h3⟩⟩⟩
  · rintro ⟨h1, h2⟩
    exact ⟨⟨h1, fun h => h2 ⟨h.1, fun q => h.2 q.1⟩⟩, fun e => h2 ⟨e ▸ hi, fun q => q.2 e⟩⟩
set_option maxRecDepth 100000 in
set_option maxHeartbeats 4000000 in
theorem fresh_any (g o rb fb L : Nat) (R F : Nat → Prop) (w : World) (hc : w.cell? ⟨g, o + 6, none⟩ = some (.map (some rb))) (hg : g < w.heap.size) (hR : PS w rb R) (hF : PS w fb F) (hne : rb ≠ fb) (hL : L ≤ 20000) (h1 : ∀ i, R i → i ≤ L) (h2 : ∀ i, F i → i ≤ L) :
    Calls Try.prog 59 #[.pointer (some ⟨g, o, none⟩), .map (some fb)] w fun e w' => e = .returned (.map (some w.heap.size)) ∧ PS w' w.heap.size (df F R) ∧ PS w' rb (un R F) ∧ w.grownBy w' (some rb) := by
  have hrl := hR.lt
  have hfl := hF.lt
  have hclo := clone_ps hF
  have HF := hF
  obtain ⟨DR, hR, hsR⟩ := hR
  obtain ⟨DF, hF, hsF⟩ := hF
  go_enter Try.func59, Try.ntmps59
  go_wp2_with (first
    | (go_at_call 76; refine hclo.mono ?_; rintro e w1 ⟨rfl, hl1, hg1, hs1⟩)
    | (at_range; refine wpList_range_own _ rfl _ 47 rfl 3 55 law3 Try.underlying47 _ fb _ _ rfl (hF.kept hg1 (by simp)) ?_; intro w0 hrg0 hg0 hs0)
    | go_in)
  go_frame
  obtain ⟨D1, hl1, hsl1⟩ := hl1
  rw [hs1] at hrg0 ⊢
  have hg2 := grownBy_trans hg1 hg0
  go_loopw [6] (fun _ wr => ∃ (left : Lit → Bool) (cnt : Nat) (Dl : DataW Unit), wr.ranges Try.prog 3 unitElem fb (w.heap.size + 1) (Maps.size DF) DF left cnt ∧
      wr.ownsMap Try.prog 3 unitElem w.heap.size (Maps.size D1) Dl ∧ Hs Dl (df F fun i => R i ∧ ¬ lf left i) ∧ w.grownBy wr none ∧ w.heap.size + 2 ≤ wr.heap.size)
    (fun _ wr => wr.rangeLeft fb (w.heap.size + 1))
  case atStart =>
    exact ⟨_, _, D1, hrg0, hl1.kept hg0 (by simp), fresh_start hsl1 hsF, hg2, by omega⟩
  case round =>
    obtain ⟨left, cnt, Dl, hrg, hl, hsl, hgw, hsz⟩ := hrel
    go_wp2_with (first
      | (at_next; refine next_places rfl _ rfl fb (w.heap.size + 1) _ _ _ _ rfl hrg ?_ ?_)
      | go_in)
    · intro hc0 hl0
      have hR2 := PS.of (hR.kept hgw (by simp)) hsR
      have hl2 := PS.of hl (fresh_end hsl hl0)
      have c6 := ((below_of hgw).cell (p := ⟨g, o + 6, none⟩) hg).trans hc
      have hcop := copy_any rb w.heap.size L R (df F R) wr hR2 hl2 (by omega) hL h1 (fun i h => h2 i h.1)
      rw [un_df] at hcop
      go_wp2_with (go_at_call 58; refine hcop.mono ?_; rintro e w3 ⟨rfl, hR3, hg3⟩)
      go_ret
      exact ⟨rfl, hl2.kept hg3 (by simp; omega), hR3, grownBy_trans (hgw.but _) hg3⟩
    · intro x w2 cnt1 hwx hlx hrg1 hlt hg3 hs3 hen
      obtain ⟨i, rfl, hi⟩ := left_in hrg hsF hlx
      have hgw2 := hgw.andThen hg3 (fun j hj => .inl (by cases hj; omega))
      have hR2 := hR.kept hgw2 (by simp)
      have hl2 := hl.kept hg3 (fun e => by have := Option.some.inj e; omega)
      have c6 := ((below_of hgw2).cell (p := ⟨g, o + 6, none⟩) hg).trans hc
      have hl3 := hl2.alloc (.cells #[] 55)
      have hrg2 := hrg1.alloc (.cells #[] 55)
      have hgw3 := hgw2.andThen (World.grownBy_alloc w2 (.cells #[] 55) none) (fun j hj => by cases hj)
      by_cases hRi : R i
      · have hh : Maps.has DR (.int .i64 (i : Int)) = true := (hsR _).2 ⟨i, rfl, hRi⟩
        go_wp2_with (first
          | (at_lookup; refine wpList_lookup_own_unit _ rfl _ _ 47 rfl 3 55 law3 Try.underlying47 (zero57 _) rb _ DR rfl hR2 _ _ rfl (keyOf_int_mk Try.underlying3 hwx) ?_; rw [hh])
          | (at_delete; refine wpList_delete_own _ rfl _ _ 47 3 rfl 55 law3 Try.underlying47 _ w.heap.size _ Dl rfl hl3 _ _ rfl (keyOf_int_mk Try.underlying3 hwx) ?_; intro w3 hl4 hturn; go_frame)
          | go_in)
        have hg4 := hturn.grown
        have hrg3 := hrg2.kept hg4 (fun e => by have := Option.some.inj e; omega) (fun e => by have := Option.some.inj e; omega)
        go_roundw
        case rel =>
          exact ⟨_, cnt1, _, hrg3, hl4, fresh_drop hRi (hs_del hsl i), hgw3.andThen hg4 (fun j hj => .inl (by cases hj; exact Nat.le_refl _)), by have := hg4.size; simp at this; omega⟩
        case measure => rw [hrg3.left_eq, hrg.left_eq]; exact hlt
      · have hh : Maps.has DR (.int .i64 (i : Int)) = false := by
          cases q : Maps.has DR (.int .i64 (i : Int))
          · rfl
          · obtain ⟨j, hj, hr⟩ := (hsR _).1 q
            exact absurd (by rw [show i = j by omega]; exact hr) hRi
        go_wp2_with (first
          | (at_lookup; refine wpList_lookup_own_unit _ rfl _ _ 47 rfl 3 55 law3 Try.underlying47 (zero57 _) rb _ DR rfl hR2 _ _ rfl (keyOf_int_mk Try.underlying3 hwx) ?_; rw [hh])
          | go_in)
        go_roundw
        case rel =>
          exact ⟨_, cnt1, _, hrg2, hl3, fresh_keep hRi hsl, hgw3, by simp; omega⟩
        case measure => rw [hrg2.left_eq, hrg.left_eq]; exact hlt
end Go.Proofs.Ytnfchlkdppblfaa
