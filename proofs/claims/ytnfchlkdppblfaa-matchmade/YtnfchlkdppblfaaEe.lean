/- Contract of the step's behind: what is come to by one byte. -/
import Derived.Test.YtnfchlkdppblfaaEd
namespace Go.Proofs.Ytnfchlkdppblfaa
open Go.RowKit Go.Maps Go
theorem wrap_u8 (b : UInt8) : wrap64 (b.toNat : Int) = (b.toNat : Int) := IntWalk.wrap64_in _ (by have := b.toNat_lt; omega)
/-- The byte at a place; -1: there is none. -/
def nx (S : ByteArray) (i : Nat) : Int := if h : i < S.size then (S[i].toNat : Int) else -1
theorem nx_in {S : ByteArray} {i : Nat} (h : i < S.size) : nx S i = (S[i].toNat : Int) := by unfold nx; rw [dif_pos h]
theorem grown_of {w w' : World} (h : Below w.heap.size w w') : w.grownBy w' none := ⟨h.os, h.tape, h.output, h.size, fun k hk _ => h.block k hk⟩
theorem hs_im {D : DataW Unit} {r : Nat → Nat → Prop} {A B : Nat → Prop} (h : Hs D (im r A)) (hh : ∀ i, A i ↔ B i) : Hs D (im r B) := by rw [← ext1 hh]; exact h
theorem beh_start {DF : DataW Unit} {F : Nat → Prop} {r : Nat → Nat → Prop} (hF : Hs DF F) : Hs (.map []) (im r (df F (lf (Maps.has DF)))) := hs_congr hs_empty fun i => by
  constructor
  · exact False.elim
  · rintro ⟨j, ⟨q, q'⟩, _⟩; exact q' ((hF j).2 ⟨j, rfl, q⟩)
theorem beh_end {D : DataW Unit} {F : Nat → Prop} {r : Nat → Nat → Prop} {left : Lit → Bool} (h : Hs D (im r (df F (lf left)))) (hl : ∀ kl, left kl = false) : Hs D (im r F) := hs_im h fun i => by
  exact ⟨fun q => q.1, fun q => ⟨q, fun h => by unfold lf at h; rw [hl] at h; cases h⟩⟩
theorem beh_no {D : DataW Unit} {F : Nat → Prop} {r : Nat → Nat → Prop} {left : Lit → Bool} {i : Nat} (hr : ∀ j, ¬ r i j) (h : Hs D (im r (df F (lf left)))) : Hs D (im r (df F (lf fun z => left z && !z.sameKey (.int .i64 (i : Int))))) := hs_congr h fun j => by
  constructor
  · rintro ⟨x, ⟨q1, q2⟩, q3⟩; exact ⟨x, ⟨q1, fun h => q2 ((lf_strike left i x).1 h).1⟩, q3⟩
  · rintro ⟨x, ⟨q1, q2⟩, q3⟩
    exact ⟨x, ⟨q1, fun h => q2 ((lf_strike left i x).2 ⟨h, fun e => hr j (e ▸ q3)⟩)⟩, q3⟩
theorem beh_yes {D : DataW Unit} {F : Nat → Prop} {r : Nat → Nat → Prop} {left : Lit → Bool} {i k : Nat} (hi : F i) (hr : ∀ j, r i j ↔ j = k) (h : Hs D (un (im r (df F (lf left))) fun j => j = k)) : Hs D (im r (df F (lf fun z => left z && !z.sameKey (.int .i64 (i : Int))))) := hs_congr h fun j => by
  constructor
  · rintro (⟨x, ⟨q1, q2⟩, q3⟩ | e)
    · exact ⟨x, ⟨q1, fun h => q2 ((lf_strike left i x).1 h).1⟩, q3⟩
    · exact ⟨i, ⟨hi, fun h => ((lf_strike left i i).1 h).2 rfl⟩, (hr j).2 e⟩
  · rintro ⟨x, ⟨q1, q2⟩, q3⟩
    by_cases e : x = i
    · exact Or.inr ((hr j).1 (e ▸ q3))
    · exact Or.inl ⟨x, ⟨q1, fun h => q2 ((lf_strike left i x).2 ⟨h, e⟩)⟩, q3⟩
theorem keep4c {w w1 : World} {g o : Nat} {f : Nat → Int} (hg : g < w.heap.size) (h1 : w.cell? ⟨g, o + 1, none⟩ = some (.int .u64 (f 0))) (h2 : w.cell? ⟨g, o + 2, none⟩ = some (.int .u64 (f 1))) (h3 : w.cell? ⟨g, o + 3, none⟩ = some (.int .u64 (f 2))) (h4 : w.cell? ⟨g, o + 4, none⟩ = some (.int .u64 (f 3))) (h : Below w.heap.size w w1) :
    Below w.heap.size w w1 ∧ w1.cell? ⟨g, o + 1, none⟩ = some (.int .u64 (f 0)) ∧ w1.cell? ⟨g, o + 2, none⟩ = some (.int .u64 (f 1)) ∧ w1.cell? ⟨g, o + 3, none⟩ = some (.int .u64 (f 2)) ∧ w1.cell? ⟨g, o + 4, none⟩ = some (.int .u64 (f 3)) :=
  ⟨h, (h.cell (p := ⟨g, _, none⟩) hg).trans h1, (h.cell (p := ⟨g, _, none⟩) hg).trans h2, (h.cell (p := ⟨g, _, none⟩) hg).trans h3, (h.cell (p := ⟨g, _, none⟩) hg).trans h4⟩
set_option maxRecDepth 100000 in
set_option maxHeartbeats 4000000 in
theorem behind_any (g o fb : Nat) (f : Nat → Int) (S : ByteArray) (F : Nat → Prop) (w : World) (hg : g < w.heap.size) (h1 : w.cell? ⟨g, o + 1, none⟩ = some (.int .u64 (f 0))) (h2 : w.cell? ⟨g, o + 2, none⟩ = some (.int .u64 (f 1))) (h3 : w.cell? ⟨g, o + 3, none⟩ = some (.int .u64 (f 2))) (h4 : w.cell? ⟨g, o + 4, none⟩ = some (.int .u64 (f 3)))
    (hF : PS w fb F) (hL : S.size ≤ 10000) (hb : ∀ i, F i → i ≤ S.size) :
    Calls Try.prog 39 #[.pointer (some ⟨g, o, none⟩), .string S, .map (some fb)] w fun e w' => e = .returned (.map (some w.heap.size)) ∧ PS w' w.heap.size (im (bytR (nx S) S.size f) F) ∧ w.grownBy w' none := by
  have hfl := hF.lt
  obtain ⟨DF, hF, hsF⟩ := hF
  have hz := size_le hF hsF hb
  have hmm := @run_makeMap Try.prog
  have H4 := Lib.hid (fun w1 => keep4c (w1 := w1) hg h1 h2 h3 h4)
  clear h1 h2 h3 h4
  go_enter Try.func39, Try.ntmps39
  go_wp2_with (first
    | (at_range; refine wpList_range_own _ rfl _ 47 rfl 3 55 law3 Try.underlying47 _ fb _ _ rfl (hF.alloc _) ?_; intro w0 hrg0 hg0 hs0)
    | go_in)
  go_frame
  have e1 : (w.alloc (.map #[] 0)).heap.size = w.heap.size + 1 := by simp
  rw [e1] at hrg0 hs0 ⊢
  go_loopw [8] (fun _ wr => ∃ (left : Lit → Bool) (cnt : Nat) (De : DataW Unit), wr.ranges Try.prog 3 unitElem fb (w.heap.size + 1) (Maps.size DF) DF left cnt ∧ cnt ≤ Maps.size DF ∧
      wr.ownsMap Try.prog 3 unitElem w.heap.size (Maps.size DF - cnt) De ∧ Hs De (im (bytR (nx S) S.size f) (df F (lf left))) ∧ w.grownBy wr none ∧ w.heap.size + 2 ≤ wr.heap.size)
    (fun _ wr => wr.rangeLeft fb (w.heap.size + 1))
  case atStart =>
    exact ⟨_, _, .map [], hrg0, Nat.le_refl _, ((World.ownsMap_made _ _ _ _).kept hg0 (by simp)).mono (Nat.zero_le _), beh_start hsF, grownBy_trans (World.grownBy_alloc _ _ _) hg0, by omega⟩
  case round =>
    obtain ⟨left, cnt, De, hrg, hcs, hout, hM, hgw, hsz⟩ := hrel
    go_wp2_with (first
      | (at_next; refine next_places rfl _ rfl fb (w.heap.size + 1) _ _ _ _ rfl hrg ?_ ?_)
      | go_in)
    · intro hc0 hl0
      go_wp2
      go_ret
      exact ⟨rfl, PS.of hout (beh_end hM hl0), hgw⟩
    · intro x w1 cnt1 hwx hlx hrg1 hlt hg1 hs1 hen
      obtain ⟨i, rfl, hi⟩ := left_in hrg hsF hlx
      have hi' := hb i hi
      have hgw1 := hgw.andThen hg1 (fun j hj => .inl (by cases hj; omega))
      have hout1 := hout.kept hg1 (fun e => by have := Option.some.inj e; omega)
      obtain ⟨_, k1, k2, k3, k4⟩ := H4.out w1 (below_of hgw1)
      have H5 := Lib.hid (fun w' => keep4c (w := w1) (w1 := w') (Nat.lt_of_lt_of_le hg hgw1.size) k1 k2 k3 k4)
      clear k1 k2 k3 k4
      by_cases hlt' : i < S.size
      · have hcl : (i : Int) < (S.size : Int) := by omega
        have HW : Hid (IntKind.i64.wrap (S[i].toNat : Int) = nx S i) := Lib.hid (by rw [IntKind.wrap_i64, nx_in hlt']; have := S[i].toNat_lt; omega)
        cases hh : hasI f (nx S i)
        · have HX := Lib.hid hh
          clear hh
          go_wp2
          go_region_held3 (fun w' => Below w1.heap.size w1 w' ∧ w'.cell? ⟨g, o + 1, none⟩ = some (.int .u64 (f 0)) ∧ w'.cell? ⟨g, o + 2, none⟩ = some (.int .u64 (f 1)) ∧ w'.cell? ⟨g, o + 3, none⟩ = some (.int .u64 (f 2)) ∧ w'.cell? ⟨g, o + 4, none⟩ = some (.int .u64 (f 3)))
            ((refine H5.out _ ?_; first | assumption | exact (Below.refl _ _).drew))
            (first | (go_at_call 57; go_split_ands; refine (fromB (w := w1) (has_any f _ _) ?_).mono ?_; assumption; rintro e w2 ⟨rfl, hB2⟩))
          have hg2 := grown_of hB2
          have hrg2 := hrg1.kept hg2 (by simp) (by simp)
          have hout2 := hout1.kept hg2 (by simp)
          have hgw2 := grownBy_trans hgw1 hg2
          have hs2 := hg2.size
          rw [HW.out, HX.out]
          go_wp2
          go_roundw
          case rel =>
            exact ⟨_, cnt1, _, hrg2, by omega, hout2.mono (by omega), beh_no (fun j h => by have := h.2.1; rw [HX.out] at this; cases this) hM, hgw2, by omega⟩
          case measure => rw [hrg2.left_eq, hrg.left_eq]; exact hlt
        · have HX := Lib.hid hh
          clear hh
          have hmax : Maps.size DF - cnt < maxLen := by unfold maxLen; omega
          have hwy : (Lit.int .i64 ((i : Int) + 1)).wf = true := WalkArith.wf_i64 (by omega)
          go_wp2
          go_region_held3 (fun w' => Below w1.heap.size w1 w' ∧ w'.cell? ⟨g, o + 1, none⟩ = some (.int .u64 (f 0)) ∧ w'.cell? ⟨g, o + 2, none⟩ = some (.int .u64 (f 1)) ∧ w'.cell? ⟨g, o + 3, none⟩ = some (.int .u64 (f 2)) ∧ w'.cell? ⟨g, o + 4, none⟩ = some (.int .u64 (f 3)))
            ((refine H5.out _ ?_; first | assumption | exact (Below.refl _ _).drew))
            (first | (go_at_call 57; go_split_ands; refine (fromB (w := w1) (has_any f _ _) ?_).mono ?_; assumption; rintro e w2 ⟨rfl, hB2⟩))
          have hg2 := grown_of hB2
          have hrg2 := hrg1.kept hg2 (by simp) (by simp)
          have hout2 := hout1.kept hg2 (by simp)
          have hgw2 := grownBy_trans hgw1 hg2
          have hs2 := hg2.size
          rw [HW.out, HX.out]
          go_wp2_with (first
            | (at_mapUpdate; refine wpList_mapUpdate_own _ rfl _ _ _ 47 rfl 3 55 law3 Try.underlying47 _ w.heap.size _ _ rfl hout2 hmax _ _ _ rfl rfl (keyOf_int_mk Try.underlying3 hwy) _ [] unitElem_mk ?_; intro w3 hout3 hg3; go_frame)
            | go_in)
          have hrg3 := hrg2.kept hg3 (fun e => by have := Option.some.inj e; omega) (fun e => by have := Option.some.inj e; omega)
          have ei : (i : Int) + 1 = ((i + 1 : Nat) : Int) := by omega
          rw [ei] at hout3 hwy
          have hs3 := hg3.size
          go_roundw
          case rel =>
            exact ⟨_, cnt1, _, hrg3, by omega, hout3.mono (by omega), beh_yes (k := i + 1) hi (fun j => ⟨fun h => h.2.2, fun h => ⟨hlt', HX.out, h⟩⟩) (hs_put hout.isMap hM (i + 1) _ (law3.key (keyOf_int_mk Try.underlying3 hwy))), hgw2.andThen hg3 (fun j hj => .inl (by cases hj; exact Nat.le_refl _)), by omega⟩
          case measure => rw [hrg3.left_eq, hrg.left_eq]; exact hlt
      · have hcl : ¬ (i : Int) < (S.size : Int) := by omega
        go_wp2
        go_quiet (fail)
        go_wp2
        have hrg2 := fun q => hrg1.kept (grown_of (below_drewN (Below.refl w1.heap.size w1) q)) (by simp) (by simp)
        go_roundw
        case rel =>
          exact ⟨_, cnt1, _, hrg2 _, by omega, (hout1.kept (grown_of (below_drewN (Below.refl w1.heap.size w1) _)) (by simp)).mono (by omega), beh_no (fun j h => by have := h.1; omega) hM, grownBy_trans hgw1 (grown_of (below_drewN (Below.refl w1.heap.size w1) _)), by simp; omega⟩
        case measure => rw [(hrg2 _).left_eq, hrg.left_eq]; exact hlt
end Go.Proofs.Ytnfchlkdppblfaa
