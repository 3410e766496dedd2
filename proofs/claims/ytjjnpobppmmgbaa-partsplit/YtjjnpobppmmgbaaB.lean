/- Contracts of part.side and part.divide over the landed code: classes divided by one set. -/
import Derived.Test.YtjjnpobppmmgbaaD
import Derived.Test.YtjjnpobppmmgbaaN
import Derived.WideKeyPair
import Derived.DeepKeys4
namespace Go.Proofs.Ytjjnpobppmmgbaa
open Go.RowKit Go.Maps Go.WideMaps
/-- Which side of a set a byte is on. -/
def sideI (f : Nat → Int) (b : Int) : Int := if hasI f b then 1 else 0
theorem side_yes {f : Nat → Int} {b : Int} (h : hasI f b = true) : sideI f b = 1 := by unfold sideI; rw [h]; rfl
theorem side_no {f : Nat → Int} {b : Int} (h : hasI f b = false) : sideI f b = 0 := by unfold sideI; rw [h]; rfl
theorem side_bd (f : Nat → Int) (b : Int) : 0 ≤ sideI f b ∧ sideI f b ≤ 1 := by
  cases h : hasI f b
  · rw [side_no h]; omega
  · rw [side_yes h]; omega
set_option maxHeartbeats 400000 in
theorem side_any (f : Nat → Int) (b : Int) (w : World) :
    Calls Try.prog 23 #[SV f, .int .i64 b] w fun e w' => e = .returned (.int .i64 (sideI f b)) ∧ Below w.heap.size w w' := by
  cases h : hasI f b
  · have HS := Lib.hid (side_no h)
    have HH := Lib.hid h
    clear h
    go_enter Try.func23, Try.ntmps23
    go_wp2_with fail
    refine (has_any f b _).mono ?_
    rintro e w1 ⟨rfl, hb1⟩
    rw [HH.out]
    go_wp2
    go_ret
    exact ⟨ret_int HS.out.symm, ((Below.refl _ _).alloc (Nat.le_refl _) _).trans (hb1.mono (by simp))⟩
  · have HS := Lib.hid (side_yes h)
    have HH := Lib.hid h
    clear h
    go_enter Try.func23, Try.ntmps23
    go_wp2_with fail
    refine (has_any f b _).mono ?_
    rintro e w1 ⟨rfl, hb1⟩
    rw [HH.out]
    go_wp2
    go_ret
    exact ⟨ret_int HS.out.symm, ((Below.refl _ _).alloc (Nat.le_refl _) _).trans (hb1.mono (by simp))⟩
theorem laidOut : laidOutB Try.prog = true := by kernel_rfl
theorem row49 : (49 : TypeId) < Try.prog.types.size := of_decide_eq_true (by kernel_rfl)
theorem cells49 : Try.prog.cellsOf 49 = 2 := by kernel_rfl
theorem cells3 : Try.prog.cellsOf 3 = 1 := by kernel_rfl
theorem arr49 : ArrKey Try.prog 49 3 2 := ⟨Try.underlying49, by kernel_rfl, cells3, cells49⟩
theorem wide49 : (match Try.prog.underlying 49 with | some (.array _ _) | some (.struct _) => true | _ => false) = true := by rw [Try.underlying49]
theorem law49 : Keyed Try.prog 49 := Keyed.of_law (deep_law_laid laidOut (m := 2) (by omega) row49 (by kernel_rfl) wide49)
theorem types_pos : ∃ m, Try.prog.types.size = m + 1 := by
  have : 49 < Try.prog.types.size := row49
  exact ⟨Try.prog.types.size - 1, by omega⟩
/-- What a key reads as. -/
def keyI (c s : Int) : Lit := .string (keyBytes [.int .i64 c, .int .i64 s])
theorem wf_small {a : Int} (h0 : 0 ≤ a) (h1 : a ≤ 1000) : (Lit.int .i64 a).wf = true := WalkArith.wf_i64 (by omega)
theorem keyI_of {c s : Int} (hc : 0 ≤ c ∧ c ≤ 1000) (hs : 0 ≤ s ∧ s ≤ 1) : keyOf Try.prog 49 (.agg #[.int .i64 c, .int .i64 s]) = some (keyI c s) :=
  keyOf_pair arr49 Try.underlying3 types_pos (wf_small hc.1 hc.2) (wf_small hs.1 (by omega))
theorem keyI_inj {c s c' s' : Int} (hc : 0 ≤ c ∧ c ≤ 1000) (hs : 0 ≤ s ∧ s ≤ 1) (hc' : 0 ≤ c' ∧ c' ≤ 1000) (hs' : 0 ≤ s' ∧ s' ≤ 1) (h : keyI c s = keyI c' s') : c = c' ∧ s = s' := by
  have h1 := keyI_of hc hs
  rw [h] at h1
  have := law49.inj h1 (keyI_of hc' hs')
  simpa using this
theorem zero3 (w : World) : (zeroValue 3).run Try.prog w = .ok (.int .i64 0) w := by kernel_rfl
/-- Alike to R, and on the same side of f. -/
def andR (R : Nat → Nat → Bool) (f : Nat → Int) (a b : Nat) : Bool := R a b && (hasI f a == hasI f b)
theorem eqv_and {R : Nat → Nat → Bool} (E : Eqv R) (f : Nat → Int) : Eqv (andR R f) where
  refl a := by simp [andR, E.refl a]
  symm a b h := by
    simp only [andR, Bool.and_eq_true, beq_iff_eq] at h ⊢
    exact ⟨E.symm _ _ h.1, h.2.symm⟩
  trans a b c h k := by
    simp only [andR, Bool.and_eq_true, beq_iff_eq] at h k ⊢
    exact ⟨E.trans _ _ _ h.1 k.1, h.2.trans k.2⟩
/-- The key of a byte. -/
def keyB (R : Nat → Nat → Bool) (f : Nat → Int) (a : Nat) : Lit := keyI (clsR R a) (sideI f a)
theorem cls_bd {R : Nat → Nat → Bool} {a : Nat} (h : a < 256) : 0 ≤ (clsR R a : Int) ∧ (clsR R a : Int) ≤ 1000 := by
  have := cls_le (R := R) a; omega
theorem keyB_iff {R : Nat → Nat → Bool} (E : Eqv R) (f : Nat → Int) {a b : Nat} (ha : a < 256) (hb : b < 256) : keyB R f a = keyB R f b ↔ andR R f a b = true := by
  constructor
  · intro h
    obtain ⟨h1, h2⟩ := keyI_inj (cls_bd ha) (side_bd f a) (cls_bd hb) (side_bd f b) h
    have h3 : R a b = true := cls_inj E (by omega)
    simp only [andR, h3, Bool.true_and, beq_iff_eq]
    cases h4 : hasI f a <;> cases h5 : hasI f b <;> simp_all [sideI]
  · intro h
    simp only [andR, Bool.and_eq_true, beq_iff_eq] at h
    unfold keyB sideI
    rw [cls_eq E h.1, h.2]
/-- What the map holds behind b rounds. -/
structure MapInv (R : Nat → Nat → Bool) (f : Nat → Int) (b : Nat) (D : DataW Unit) : Prop where
  has : ∀ a, a < 256 → (Maps.has D (keyB R f a) = true ↔ ∃ c, c < b ∧ andR R f c a = true)
  val : ∀ a, a < b → D.atKey (keyB R f a) (.lit (.int .i64 0)) = .lit (.int .i64 (clsR (andR R f) a))
  size : Maps.size D = cntR (andR R f) b
theorem inv_start (R : Nat → Nat → Bool) (f : Nat → Int) : MapInv R f 0 (.map []) where
  has a _ := by simp [Maps.has]
  val a h := by omega
  size := rfl
theorem key_isKey {R : Nat → Nat → Bool} {f : Nat → Int} {a : Nat} (ha : a < 256) : WideAt.IsKeyLit (keyB R f a) := law49.key (keyI_of (cls_bd (R := R) ha) (side_bd f a))
/-- A byte whose key is there: nothing turns. -/
theorem inv_old {R : Nat → Nat → Bool} (E : Eqv R) {f : Nat → Int} {b : Nat} {D : DataW Unit} (hb : b < 256) (I : MapInv R f b D) (h : Maps.has D (keyB R f b) = true) :
    D.atKey (keyB R f b) (.lit (.int .i64 0)) = .lit (.int .i64 (clsR (andR R f) b)) ∧ MapInv R f (b + 1) D := by
  obtain ⟨c, hc, hcb⟩ := (I.has b hb).1 h
  have E' := eqv_and E f
  obtain ⟨o1, o2⟩ := cls_old E' hc hcb
  have hk : keyB R f c = keyB R f b := (keyB_iff E f (by omega) hb).2 hcb
  have hv : D.atKey (keyB R f b) (.lit (.int .i64 0)) = .lit (.int .i64 (clsR (andR R f) b)) := by rw [← hk, I.val c hc, o1]
  refine ⟨hv, fun a ha => ?_, fun a ha => ?_, by rw [I.size, o2]⟩
  · rw [I.has a ha]
    constructor
    · rintro ⟨d, hd, hda⟩; exact ⟨d, by omega, hda⟩
    · rintro ⟨d, hd, hda⟩
      rcases Nat.lt_or_ge d b with h1 | h1
      · exact ⟨d, h1, hda⟩
      · have : d = b := by omega
        subst this; exact ⟨c, hc, E'.trans _ _ _ hcb hda⟩
  · rcases Nat.lt_or_ge a b with h1 | h1
    · exact I.val a h1
    · have : a = b := by omega
      subst this; exact hv
/-- A byte whose key is not there: it is put there, with the count. -/
theorem inv_new {R : Nat → Nat → Bool} (E : Eqv R) {f : Nat → Int} {b : Nat} {D : DataW Unit} (hb : b < 256) (T : Tidy D) (I : MapInv R f b D) (h : Maps.has D (keyB R f b) = false) :
    Maps.size D = clsR (andR R f) b ∧ MapInv R f (b + 1) (D.put (keyB R f b) (.lit (.int .i64 (clsR (andR R f) b)))) := by
  have E' := eqv_and E f
  have hn : ∀ a, a < b → andR R f a b = false := fun a ha => by
    cases hR : andR R f a b
    · rfl
    · rw [(I.has b hb).2 ⟨a, ha, hR⟩] at h; cases h
  obtain ⟨o1, o2⟩ := cls_fresh hn
  refine ⟨by rw [I.size, o1], fun a ha => ?_, fun a ha => ?_, by rw [size_put T, h, I.size, o2]; rfl⟩
  · by_cases e : keyB R f a = keyB R f b
    · rw [e, has_put_same T.isMap (key_isKey hb)]
      exact ⟨fun _ => ⟨b, by omega, (keyB_iff E f hb ha).1 e.symm⟩, fun _ => rfl⟩
    · rw [has_put_other e, I.has a ha]
      constructor
      · rintro ⟨d, hd, hda⟩; exact ⟨d, by omega, hda⟩
      · rintro ⟨d, hd, hda⟩
        rcases Nat.lt_or_ge d b with h1 | h1
        · exact ⟨d, h1, hda⟩
        · have : d = b := by omega
          subst this; exact absurd ((keyB_iff E f hb ha).2 hda).symm e
  · rcases Nat.lt_or_ge a b with h1 | h1
    · have e : keyB R f a ≠ keyB R f b := fun e => by
        have := (keyB_iff E f (by omega) hb).1 e
        rw [hn a h1] at this; cases this
      rw [atKey_put_other e, I.val a h1]
    · have : a = b := by omega
      subst this; exact atKey_put_same T.isMap (key_isKey hb) _ _
/-- 256 numbers in a row. -/
def rowN (h : Nat → Nat) : Array Value := ((List.range 256).map fun i => Value.int .i64 (h i)).toArray
theorem rowN_size (h : Nat → Nat) : (rowN h).size = 256 := by simp [rowN]
theorem rowN_get (h : Nat → Nat) {i : Nat} (hi : i < 256) : (rowN h)[i]? = some (.int .i64 (h i)) := by
  simp [rowN, hi]
theorem rowN_ext {A : Array Value} {h : Nat → Nat} (hs : A.size = 256) (ha : ∀ i, i < 256 → A[i]? = some (.int .i64 (h i))) : A = rowN h := by
  apply Array.ext_getElem?
  intro i
  by_cases hi : i < 256
  · rw [ha i hi, rowN_get h hi]
  · rw [Array.getElem?_eq_none (by omega), Array.getElem?_eq_none (by rw [rowN_size]; omega)]
def mixN (h h' : Nat → Nat) (j i : Nat) : Nat := if i < j then h' i else h i
theorem mixN_at (h h' : Nat → Nat) (j : Nat) : mixN h h' j j = h j := by unfold mixN; rw [if_neg (by omega)]
theorem mixN_set (h h' : Nat → Nat) {j : Nat} (hj : j < 256) : (rowN (mixN h h' j)).setIfInBounds j (.int .i64 (h' j)) = rowN (mixN h h' (j + 1)) := by
  refine rowN_ext (by simp [rowN_size]) fun i hi => ?_
  rw [Array.getElem?_setIfInBounds]
  by_cases e : j = i
  · subst e; rw [if_pos rfl, if_pos (by rw [rowN_size]; exact hj)]; unfold mixN; rw [if_pos (by omega)]
  · rw [if_neg e, rowN_get _ hi]; unfold mixN
    by_cases h1 : i < j
    · rw [if_pos h1, if_pos (by omega)]
    · rw [if_neg h1, if_neg (by omega)]
theorem mixN_all (h h' : Nat → Nat) : rowN (mixN h h' 256) = rowN h' := by
  refine rowN_ext (rowN_size _) fun i hi => ?_
  rw [rowN_get _ hi]; unfold mixN; rw [if_pos hi]
theorem mixN_none (h h' : Nat → Nat) : rowN h = rowN (mixN h h' 0) := by
  refine rowN_ext (rowN_size _) fun i hi => ?_
  rw [rowN_get _ hi]; unfold mixN; rw [if_neg (by omega)]
/-- What divide leaves. -/
def GivesDiv (B g : Nat) (w : World) (R : Nat → Nat → Bool) (e : Ending) (w' : World) : Prop :=
  e = .returned (.int .i64 (cntR R 256)) ∧ w'.heap[g]? = some (.cells (rowN (clsR R)) 3 (0, 0)) ∧ Below B w w'
theorem grown_below {w w' : World} (h : Below w.heap.size w w') : w.grownBy w' none := ⟨h.os, h.tape, h.output, h.size, fun k hk _ => h.block k hk⟩
theorem ret_nat {a b : Nat} (h : a = b) : Ending.returned (.int .i64 (a : Int)) = .returned (.int .i64 (b : Int)) := by rw [h]
set_option maxRecDepth 100000 in
set_option maxHeartbeats 2000000 in
theorem divide_any (R : Nat → Nat → Bool) (E : Eqv R) (f : Nat → Int) (g cap B : Nat) (w : World) (hB : B ≤ g) (hgl : g < w.heap.size) (hg : w.heap[g]? = some (.cells (rowN (clsR R)) 3 (0, 0))) :
    Calls Try.prog 20 #[.slice (some ⟨g, 0, none⟩) 256 cap, SV f] w (GivesDiv B g w (andR R f)) := by
  have hmm := @run_makeMap Try.prog
  have HG := Lib.hid hg
  clear hg
  go_enter Try.func20, Try.ntmps20
  go_wp2
  go_loopw [14] (fun i wr => ∃ (j : Nat) (D : DataW Unit), j ≤ 256 ∧ i = .int .i64 j ∧ wr.heap[w.heap.size]? = some (.cells (row4 f) 36 (0, 0)) ∧ wr.ownsMap Try.prog 49 (plainElem Try.prog 3) (w.heap.size + 1) j D ∧ MapInv R f j D ∧
      wr.heap[g]? = some (.cells (rowN (mixN (clsR R) (clsR (andR R f)) j)) 3 (0, 0)) ∧ w.heap.size + 2 ≤ wr.heap.size ∧ Below B w wr) (fun i _ => 256 - (intOf i).toNat)
  case atStart =>
    refine ⟨0, .map [], by omega, rfl, heap_alloc2_old _ _ _, ?_, inv_start R f, ?_, by simp, ((Below.refl _ _).alloc (by omega) _).alloc (by simp; omega) _⟩
    · have := World.ownsMap_made (H := Unit) (w.alloc (.cells (row4 f) 36 (0, 0))) Try.prog 49 (plainElem Try.prog 3)
      simpa using this
    · rw [Below.heap_alloc _ _ _ (by simp; omega), Below.heap_alloc _ _ _ hgl, ← mixN_none]; exact HG.out
  case round =>
    obtain ⟨j, D, hj, rfl, hc, hown, I, hr, hs, hb⟩ := hrel
    by_cases hlt : j < 256
    · have HC := Lib.hid hc
      have HR := Lib.hid hr
      have c0 := cell4 hc 0 (by omega)
      have c1 := cell4 hc 1 (by omega)
      have c2 := cell4 hc 2 (by omega)
      have c3 := cell4 hc 3 (by omega)
      have cr : wr.cell? ⟨g, j, none⟩ = some (.int .i64 (clsR R j)) := by rw [cell_of_row _ _ _ _ _ _ hr, rowN_get _ hlt, mixN_at]
      clear hc hr
      go_wp2_with fail
      refine (side_any f (j : Int) _).mono ?_
      rintro e w1 ⟨rfl, hb1⟩
      have hown1 := hown.kept (grown_below hb1) (by simp)
      have HC1 := Lib.hid ((hb1.block _ (by omega)).trans HC.out)
      have HR1 := Lib.hid ((hb1.block _ (by omega)).trans HR.out)
      have hs1 : w.heap.size + 2 ≤ w1.heap.size := Nat.le_trans hs hb1.size
      have hB1 : Below B w w1 := hb.trans (hb1.mono (by omega))
      have hkey := keyI_of (cls_bd (R := R) hlt) (side_bd f j)
      clear c0 c1 c2 c3 cr hown hb hs hb1 HC HR
      have hg1 : g < w1.heap.size := by omega
      cases hh : Maps.has D (keyB R f j)
      · obtain ⟨hz, I'⟩ := inv_new E hlt (hown1.tidy law49) I hh
        have HH := Lib.hid hh
        have HZ := Lib.hid hz
        have hwf := wf_small (cls_bd (R := andR R f) hlt).1 (cls_bd hlt).2
        clear hh hz I
        go_wp2_with (first
          | (at_lookup; refine wpList_lookup_own_ok_int _ rfl _ _ 47 rfl 49 3 .i64 law49 Try.underlying47 Try.underlying3 (zero3 _) (w.heap.size + 1) j D rfl (hown1.alloc _) _ _ rfl hkey ?_; intro c hat hwc; rw [show Maps.has D (keyI (clsR R j) (sideI f j)) = false from HH.out]; clear hat hwc)
          | (at_len; refine wpList_len_own _ rfl _ 47 rfl 49 3 Try.underlying47 _ (w.heap.size + 1) j D rfl (hown1.alloc _) ?_; rw [HZ.out])
          | (at_mapUpdate; refine wpList_mapUpdate_own _ rfl _ _ _ 47 rfl 49 3 law49 Try.underlying47 (plainElem Try.prog 3) (w.heap.size + 1) j D rfl (hown1.alloc _) (by unfold maxLen; omega) _ _ _ rfl rfl hkey _ [] (plainElem_int Try.underlying3 hwf) ?_; intro w2 hown2 hgrow2; have HR2 := Lib.hid ((hgrow2.block g (by simp; omega) (by simp; omega)).trans ((Below.heap_alloc _ _ _ hg1).trans HR1.out)); have HC2 := Lib.hid ((hgrow2.block w.heap.size (by simp; omega) (by simp)).trans ((Below.heap_alloc _ _ _ (by omega)).trans HC1.out)); have cr2 := cell_of_row w2 g j _ _ _ HR2.out; rw [rowN_get _ hlt] at cr2; have fr2 := frozen_of_row w2 g j _ _ HR2.out; have hs2 := hgrow2.size; have hB2 := (hB1.alloc (by omega) _).grown hgrow2 (by simp; omega) (fun k hk => by cases hk; omega); clear hgrow2))
        go_roundw
        case rel =>
          have hl2 : w.heap.size + 2 ≤ w2.heap.size := by simp at hs2; omega
          refine ⟨j + 1, _, by omega, by go_num, ?_, hown2.setCell (by dsimp only; omega) _, I', ?_, by simpa using hl2, hB2.setCell hB _⟩
          · rw [heap_setCell_other _ _ _ _ (by dsimp only; omega)]; exact HC2.out
          · rw [heap_setCell_same _ _ _ _ _ _ HR2.out, mixN_set _ _ hlt]
        case measure => simp [intOf]; omega
      · obtain ⟨hv, I'⟩ := inv_old E hlt I hh
        have HH := Lib.hid hh
        have HV := Lib.hid hv
        have cr1 := cell_of_row w1 g j _ _ _ HR1.out
        rw [rowN_get _ hlt] at cr1
        have fr1 := frozen_of_row w1 g j _ _ HR1.out
        clear hh hv I
        go_wp2_with (first
          | (at_lookup; refine wpList_lookup_own_ok_int _ rfl _ _ 47 rfl 49 3 .i64 law49 Try.underlying47 Try.underlying3 (zero3 _) (w.heap.size + 1) j D rfl (hown1.alloc _) _ _ rfl hkey ?_; intro c hat hwc; rw [show Maps.has D (keyI (clsR R j) (sideI f j)) = true from HH.out]; obtain rfl : c = (clsR (andR R f) j : Int) := (by have := HV.out; unfold keyB at this; rw [hat] at this; simpa using this); clear hat hwc))
        go_roundw
        case rel =>
          refine ⟨j + 1, D, by omega, by go_num, ?_, ((hown1.setCell (by dsimp only; omega) _).alloc _).mono (by omega), I', ?_, by simp; omega, (hB1.setCell (p := ⟨g, j, none⟩) hB _).alloc (by simp; omega) _⟩
          · rw [Below.heap_alloc _ _ _ (by simp; omega), heap_setCell_other _ _ _ _ (by dsimp only; omega)]; exact HC1.out
          · rw [Below.heap_alloc _ _ _ (by simp; omega), heap_setCell_same _ _ _ _ _ _ HR1.out, mixN_set _ _ hlt]
        case measure => simp [intOf]; omega
    · obtain rfl : j = 256 := by omega
      have HZ := Lib.hid I.size
      go_wp2_with (at_len; refine wpList_len_own _ rfl _ 47 rfl 49 3 Try.underlying47 _ (w.heap.size + 1) 256 D rfl hown ?_)
      go_ret
      exact ⟨ret_nat HZ.out, by rw [← mixN_all (clsR R)]; exact hr, hb⟩
end Go.Proofs.Ytjjnpobppmmgbaa
